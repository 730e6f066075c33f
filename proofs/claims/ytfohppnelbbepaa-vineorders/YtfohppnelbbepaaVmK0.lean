/- Contracts of the functions: what each of them answers. -/
import Derived.Test.YtfohppnelbbepaaVmGa0
import Derived.Test.YtfohppnelbbepaaVmGa1
import Derived.Test.YtfohppnelbbepaaVmFO
import Derived.Test.YtfohppnelbbepaaVmAE
import Derived.Test.YtfohppnelbbepaaVmAF
import Derived.Test.YtfohppnelbbepaaRows
import Derived.WalkKit
import Derived.ProofKit
import Derived.OpenShut
import Derived.Carry
import Derived.Deep.Slices
import Derived.Test.YtfohppnelbbepaaVmAG
/- From the small machine to the statement: lists of numbers and lists of such lists, in memory that is only read. -/
open Go.Vm
set_option linter.unusedVariables false
set_option linter.unusedSectionVars false
namespace Go.Proofs.Ytfohppnelbbepaa.T
open Go Go.RowKit Go.Deep Go.WideShapes Go.ChangeShapes
class Ovr where
 c : qao
 no : ∀ {f : Nat} {a : List AVal} {h : Heap}, Nat.beq f 16 = false → c f a h = none
abbrev F1 [Ovr] : Tab := ⟨F, Ovr.c⟩
def IsS (ro : List ABlk) (h : Heap) (v : AVal) (z : List (List UInt8)) : Prop :=
 (v = .nsl ∧ z = []) ∨ ∃ q cap blk, v = .sl q z.length cap ∧ rdB ro h q = some blk ∧ q.off + z.length ≤ blk.n ∧ ∀ j, j < z.length → blk.c.get (q.off + j) = .s (z.getD j [])
structure OpenS (W : World) (v0 : Value) (z : List (List UInt8)) : Prop where
 o : (v0 = .slice none 0 0 ∧ z = []) ∨ ∃ (a : Addr) (cap : Nat) (Z : List ByteArray), v0 = .slice (some a) z.length cap ∧ z.length ≤ cap ∧ Z.length = cap ∧ z = (Z.map fun s => s.data.toList).take z.length ∧ ∀ i, i < cap → a.block < W.heap.size ∧ W.cell? (a.add i) = some (.string (Z.getD i ByteArray.empty))
theorem cells9 : Try.prog.cellsOf 9 = 1 := by kernel_rfl
theorem laidOut : laidOutB Try.prog = true := by kernel_rfl
theorem own : ownKnob Try.prog.godebug = none := by kernel_rfl
section
variable {H : Type} {enc : TypeId × Value → H} {W : World} {v0 : Value} {d : DataW H} {p : List MemPlace}
theorem opened_strs (hs : ∃ a len cap, v0 = .slice a len cap) (h : DataW.Trod enc Try.prog W 0 (fun _ => true) true 22 v0 d p) : ∃ z, OpenS W v0 z := by
 obtain ⟨a0, len, cap, rfl⟩ := hs
 obtain ⟨fuel, hf⟩ := h
 rcases open_slice1 Try.underlying22 cells9 hf with ⟨hcs0, hx⟩ | ⟨a, len', cap', m, n, V, D, Pl, hcs0, _, hl, hm, hmm, hx, hel⟩
 ·simp [Value.cells] at hcs0
  obtain ⟨rfl, rfl, rfl⟩ := hcs0
  exact ⟨[], ⟨.inl ⟨rfl, rfl⟩⟩⟩
 ·simp [Value.cells] at hcs0
  obtain ⟨rfl, rfl, rfl⟩ := hcs0
  simp only [if_true] at hmm
  subst hmm
  have each : ∀ i, i < m → ∃ s : ByteArray, W.cell? (a.add i) = some (.string s) := fun i hi => by
   obtain ⟨h1, h2⟩ := hel i hi
   obtain ⟨s, e, -⟩ := DataW.trod_string Try.underlying9 h2
   simp only [List.cons.injEq, and_true] at e
   exact ⟨s, by rw [h1, e]⟩
  obtain ⟨y, hy⟩ := choose_lt (α := ByteArray) each
  have hlen : ((((List.range m).map y).map fun s => s.data.toList).take len).length = len := by simp; omega
  refine ⟨(((List.range m).map y).map fun s => s.data.toList).take len, ⟨.inr ⟨a, m, (List.range m).map y, by rw [hlen], by omega, by simp, by rw [hlen], fun i hi => ?_⟩⟩⟩
  have e : ((List.range m).map y).getD i ByteArray.empty = y i := by simp [List.getD, hi]
  rw [e]
  have h1 := hy i hi
  exact ⟨World.block_lt_of_cell? _ _ h1 |> fun h => by simpa [addr_block] using h, h1⟩
end
theorem vr_str0 (s : ByteArray) (rl : Rl) (m : M) : VR rl m (.s s.data.toList) (.string s) := by
 have h : VR rl m (.s s.data.toList) (.string ⟨s.data.toList.toArray⟩) := .s _
 simpa using h
theorem vr_str (s : ByteArray) (rl : Rl) : VR rl [] (.s s.data.toList) (.string s) := vr_str0 s rl []
def CapO (v : AVal) : Prop := ∀ q n c, v = .sl q n (.known c) → n ≤ c
theorem ro_strs {W : World} {v0 : Value} {z : List (List UInt8)} (h : OpenS W v0 z) (pre : List ABlk) (prl : Rl) (hp : pre.length = prl.length) : ∃ (ro : List ABlk) (rl : Rl) (v : AVal), ro.length = rl.length ∧ CapO v ∧
  (∀ x y h, IsS (pre ++ ro ++ x) h v z ∧ VR (prl ++ rl ++ y) [] v v0) ∧
  ∀ (i : Nat) (b : ABlk), ro[i]? = some b → ∃ x, rl[i]? = some x ∧ ∀ j, j < b.n → x.block < W.heap.size ∧ ∃ v', W.cell? (x.add j) = some v' ∧ ∀ y, VR y [] (b.c.get j) v' := by
 rcases h.o with ⟨rfl, rfl⟩ | ⟨a, cap, Z, rfl, hcap, hlen, hz, hcell⟩
 ·exact ⟨[], [], .nsl, rfl, (fun q n c e => by cases e), fun x y h => ⟨.inl ⟨rfl, rfl⟩, .nsl⟩, fun i b hb => by simp at hb⟩
 ·have hget : ∀ j, j < cap → (Tr.mk (Z.map fun s => AVal.s s.data.toList)).get j = .s (Z.getD j ByteArray.empty).data.toList := fun j hj => by
   rw [qjk]; simp [List.getD, show j < Z.length by omega]
  refine ⟨[⟨0, cap, Tr.mk (Z.map fun s => AVal.s s.data.toList), none⟩], [a], .sl ⟨true, pre.length, 0⟩ z.length (.known cap), rfl, (fun q n c e => by cases e; exact hcap), fun x y h => ⟨.inr ⟨⟨true, pre.length, 0⟩, .known cap, ⟨0, cap, Tr.mk (Z.map fun s => AVal.s s.data.toList), none⟩, rfl, ?_, ?_, fun j hj => ?_⟩, ?_⟩, fun i b hb => ?_⟩
  ·simp only [rdB, cond_true, qbk, List.append_assoc]
   rw [List.getElem?_append_right (Nat.le_refl _)]; simp
  ·simpa using hcap
  ·have e := hget j (by omega)
   have e2 : (Z.getD j ByteArray.empty).data.toList = z.getD j [] := by
    rw [hz, List.getD_eq_getElem?_getD, List.getD_eq_getElem?_getD, List.getElem?_take_of_lt hj]
    simp [show j < Z.length by omega]
   rw [e2] at e
   simpa using e
  ·refine .slk _ _ _ _ ?_
   show (((prl ++ [a] ++ y)[pre.length]?).map fun x => x.add 0) = some a
   rw [List.append_assoc, List.getElem?_append_right (by omega), hp]; simp [Addr.add]
  ·cases i with
   | zero =>
    simp at hb
    subst hb
    refine ⟨a, rfl, fun j hj => ?_⟩
    obtain ⟨h1, h2⟩ := hcell j hj
    refine ⟨h1, _, h2, fun y => ?_⟩
    have := hget j hj
    simp only [this]
    exact vr_str0 _ _ _
   | succ i => simp at hb
theorem env_ok {W : World} {ro : List ABlk} {rl : Rl} (h : ∀ (i : Nat) (b : ABlk), ro[i]? = some b → ∃ x, rl[i]? = some x ∧ ∀ j, j < b.n → x.block < W.heap.size ∧ ∃ v', W.cell? (x.add j) = some v' ∧ VR rl [] (b.c.get j) v') :
  (Env.mk Try.prog W.heap.size W ro rl).Ok := ⟨fun i b hb => h i b hb, Nat.le_refl _⟩
def RoP (W : World) (ro : List ABlk) (rl : Rl) : Prop := ∀ (i : Nat) (b : ABlk), ro[i]? = some b → ∃ x, rl[i]? = some x ∧ ∀ j, j < b.n → x.block < W.heap.size ∧ ∃ v', W.cell? (x.add j) = some v' ∧ ∀ y, VR (rl ++ y) [] (b.c.get j) v'
theorem RoP.nil (W : World) : RoP W [] [] := fun i b hb => by simp at hb
theorem RoP.env {W : World} {ro : List ABlk} {rl : Rl} (h : RoP W ro rl) : (Env.mk Try.prog W.heap.size W ro rl).Ok := env_ok fun i b hb => by
 obtain ⟨y, h1, h2⟩ := h i b hb
 refine ⟨y, h1, fun j hj => ?_⟩
 obtain ⟨h3, v', h4, h5⟩ := h2 j hj
 exact ⟨h3, v', h4, by have := h5 []; simpa using this⟩
theorem RoP.snoc {W : World} {ro ro' : List ABlk} {rl rl' : Rl} (hl : ro.length = rl.length) (h : RoP W ro rl)
  (h' : ∀ (i : Nat) (b : ABlk), ro'[i]? = some b → ∃ x, rl'[i]? = some x ∧ ∀ j, j < b.n → x.block < W.heap.size ∧ ∃ v', W.cell? (x.add j) = some v' ∧ ∀ y, VR y [] (b.c.get j) v') : RoP W (ro ++ ro') (rl ++ rl') := by
 intro i b hb
 rcases Nat.lt_or_ge i ro.length with hi | hi
 ·rw [List.getElem?_append_left hi] at hb
  obtain ⟨x, h1, h2⟩ := h i b hb
  refine ⟨x, by rw [List.getElem?_append_left (by omega)]; exact h1, fun j hj => ?_⟩
  obtain ⟨h3, v', h4, h5⟩ := h2 j hj
  exact ⟨h3, v', h4, fun y => by rw [List.append_assoc]; exact h5 _⟩
 ·rw [List.getElem?_append_right hi] at hb
  obtain ⟨x, h1, h2⟩ := h' _ b hb
  refine ⟨x, by rw [List.getElem?_append_right (by omega), ← hl]; exact h1, fun j hj => ?_⟩
  obtain ⟨h3, v', h4, h5⟩ := h2 j hj
  exact ⟨h3, v', h4, fun y => h5 _⟩
theorem call_of [Ovr] {W : World} {ro : List ABlk} {rl : Rl} (hE : (Env.mk Try.prog W.heap.size W ro rl).Ok) (hO : qbv (Env.mk Try.prog W.heap.size W ro rl) Ovr.c) {K : Nat} {vs : List AVal} {args : Array Value}
  (hv : LR rl [] vs args) {h' : Heap} {lw lp : Nat} (hc : callX F1 ro K vs [] = some (.b true, h', lw, lp)) : Calls Try.prog K args W fun e W' => e = .returned (.bool true) ∧ Below W.heap.size W W' := by
 have hm : (Env.mk Try.prog W.heap.size W ro rl).P.follows .mixedOrders = true := Try.checked.mixed
 obtain ⟨-, h2⟩ := qhl hE hm (F := F1) fok hO K vs [] _ _ _ _ hc
 refine Calls.mono (h2 [] W args ⟨Below.refl _ _, rfl, by simp, fun i b r K hl => by simp [Live] at hl, fun i j b b' r K K' hl => by simp [Live] at hl⟩ hv) fun e w' hq => ?_
 obtain ⟨v', rfl, m', hvr, T⟩ := hq
 exact ⟨by rw [hvr.inv_b], T.hr.below⟩
end Go.Proofs.Ytfohppnelbbepaa.T
/- Blocks that a function makes for itself; loops whose state is known. -/
open Go.Vm
set_option linter.unusedVariables false
set_option linter.unusedSectionVars false
namespace Go.Proofs.Ytfohppnelbbepaa.T
open Go
variable [Ovr]
def Holds (hp : Heap) (b : Nat) (vs : List AVal) : Prop := ∃ blk : ABlk, lget hp b = some (some blk) ∧ blk.n = vs.length ∧ ∀ j, j < vs.length → blk.c.get j = vs.getD j und
def Keep (h hp : Heap) : Prop := h.length ≤ hp.length ∧ ∀ i, i < h.length → hp[i]? = h[i]?
section
variable {ro : List ABlk} {h hp hp' : Heap} {b k e n l p : Nat} {vs : List AVal}
theorem Keep.refl (h : Heap) : Keep h h := ⟨Nat.le_refl _, fun _ _ => rfl⟩
theorem Keep.trans {h1 : Heap} (a : Keep h h1) (c : Keep h1 hp) : Keep h hp := ⟨Nat.le_trans a.1 c.1, fun i hi => by rw [c.2 i (by have := a.1; omega), a.2 i hi]⟩
theorem Keep.app (x : Heap) : Keep h (h ++ x) := ⟨by simp, fun i hi => List.getElem?_append_left hi⟩
theorem Keep.set (a : Keep h hp) (hb : h.length ≤ b) (x : Option ABlk) : Keep h (hp.set b x) := ⟨by simpa using a.1, fun i hi => by rw [List.getElem?_set_ne (by omega)]; exact a.2 i hi⟩
theorem Keep.eq (a : Keep h hp) : hp.take h.length = h := by
 refine List.ext_getElem? fun i => ?_
 rcases Nat.lt_or_ge i h.length with hi | hi
 ·rw [List.getElem?_take_of_lt hi, a.2 i hi]
 ·rw [List.getElem?_eq_none (by simp; omega), List.getElem?_eq_none hi]
theorem qce {v : AVal} (a : Keep h hp) (hv : v.bel h.length = true) : finM h.length v ⟨hp, h.length, h.length⟩ = some (v, h, h.length, h.length) := by
 rw [fin_take hv, a.eq]
theorem Holds.lt (a : Holds hp b vs) : b < hp.length := by obtain ⟨blk, h1, -⟩ := a; exact qgk h1
theorem Holds.new (hp : Heap) (e : Nat) (vs : List AVal) : Holds (hp ++ [some (blkOf e vs)]) hp.length vs := ⟨_, qed _ _, rfl, fun j _ => qdu e vs j⟩
theorem Holds.keep (a : Holds hp b vs) (hk : hp'[b]? = hp[b]?) : Holds hp' b vs := by
 obtain ⟨blk, h1, h2⟩ := a
 exact ⟨blk, by rw [qkw hk]; exact h1, h2⟩
theorem Holds.ext (a : Holds hp b vs) (x : Heap) : Holds (hp ++ x) b vs := a.keep (List.getElem?_append_left a.lt)
theorem Holds.by (a : Holds hp b vs) (k : Keep hp hp') : Holds hp' b vs := a.keep (k.2 b a.lt)
theorem Holds.one (a : Holds hp b vs) (hk : k < vs.length) : ldM ro ⟨hp, l, p⟩ true 1 (.p (some ⟨false, b, 0 + k⟩)) = some (vs.getD k und) := by
 obtain ⟨blk, h1, h2, h3⟩ := a
 rw [ld_heap rfl h1 (by omega), ← h3 k hk, Nat.zero_add]
theorem Holds.oneA (a : Holds hp b vs) (hk : k < vs.length) : ldA ro hp true 1 (.p (some ⟨false, b, 0 + k⟩)) = some (vs.getD k und) := by
 obtain ⟨blk, h1, h2, h3⟩ := a
 rw [lda_heap h1 (by omega), ← h3 k hk, Nat.zero_add]
theorem row_list {t : Tr} : ∀ (vs : List AVal) (i : Nat), (∀ j, j < vs.length → t.get (i + j) = vs.getD j und) → t.row i vs.length = vs
 | [], i, _ => rfl
 | v :: vs, i, h => by
  simp only [List.length_cons, Tr.row]
  rw [show t.get i = v by simpa using h 0 (by simp), row_list vs (i + 1) fun j hj => by have := h (j + 1) (by simp; omega); rw [show i + 1 + j = i + (j + 1) by omega, this]; simp]
theorem Holds.rd (a : Holds hp b vs) (hn : n = vs.length) : Go.Vm.rd ro hp false n ⟨false, b, 0⟩ = some (.agg vs) := by
 subst hn
 obtain ⟨blk, h1, h2, h3⟩ := a
 have hc : Nat.ble (0 + vs.length) blk.n = true := by rw [Nat.ble_eq]; omega
 simp only [Go.Vm.rd, qdi h1, cond_false, hc, cond_true]
 rw [row_list vs 0 fun j hj => by rw [Nat.zero_add]; exact h3 j hj]
theorem Holds.all (a : Holds hp b vs) (hn : n = vs.length) : ldM ro ⟨hp, l, p⟩ false n (.p (some ⟨false, b, 0⟩)) = some (.agg vs) := by
 simp only [ldM, a.rd hn]
theorem spliceGet (t : Tr) : ∀ (vs : List AVal) (i j : Nat), (t.splice i vs).get j = if i ≤ j ∧ j < i + vs.length then vs.getD (j - i) und else t.get j
 | [], i, j => by simp [Tr.splice]; intro h1 h2; omega
 | v :: vs, i, j => by
  rw [Tr.splice, spliceGet (t.set i v) vs (i + 1) j, qdj]
  by_cases e : i = j
  ·subst e
   rw [if_neg (by omega), if_pos rfl, if_pos (by simp)]; simp
  ·by_cases h2 : i ≤ j ∧ j < i + (v :: vs).length
   ·have h3 : i + 1 ≤ j ∧ j < i + 1 + vs.length := by simp at h2; omega
    rw [if_pos h2, if_pos h3]
    obtain ⟨q, rfl⟩ : ∃ q, j = i + 1 + q := ⟨j - (i + 1), by omega⟩
    rw [show i + 1 + q - i = q + 1 by omega, show i + 1 + q - (i + 1) = q by omega]
    simp
   ·have h3 : ¬ (i + 1 ≤ j ∧ j < i + 1 + vs.length) := by simp at h2; omega
    rw [if_neg h2, if_neg h3, if_neg e]
theorem wrH_all {blk : ABlk} (hb : lget hp b = some (some blk)) (hn : vs.length ≤ blk.n) (ho : ones vs = true) : wrH hp ⟨false, b, 0⟩ vs = some (hp.set b (some { blk with c := blk.c.splice 0 vs })) := by
 have : (Nat.ble (0 + vs.length) blk.n && ones vs) = true := by rw [ho, Bool.and_true, Nat.ble_eq]; omega
 simp only [wrH, cond_false, hb, this, cond_true, qby]
theorem Holds.st {vs' : List AVal} {v : AVal} (a : Holds hp b vs) (hv : v.cells = vs') (hn : n = vs'.length) (hl : vs'.length = vs.length) (ho : ones vs' = true) (hL : h.length ≤ b) (kp : Keep h hp) :
  ∃ hp', stepM ro ⟨hp, h.length, h.length⟩ (.st n (.c (.p (some ⟨false, b, 0⟩))) (.c v)) = some (und, ⟨hp', h.length, h.length⟩) ∧ Holds hp' b vs' ∧ hp'.length = hp.length ∧ (∀ i, i ≠ b → hp'[i]? = hp[i]?) ∧ Keep h hp' := by
 obtain ⟨blk, h1, h2, h3⟩ := a
 subst hv hn
 have hw := wrH_all h1 (vs := v.cells) (by omega) ho
 refine ⟨hp.set b (some { blk with c := blk.c.splice 0 v.cells }), ?_, ⟨_, qfs h1 _, by simpa using (h2.trans hl.symm), fun j hj => ?_⟩, by simp, fun i hi => List.getElem?_set_ne (Ne.symm hi), kp.set hL _⟩
 ·have hbq : Nat.beq v.cells.length v.cells.length = true := Nat.beq_refl _
  have e : (cond (nonp v.cells) h.length h.length) = h.length := by cases nonp v.cells <;> rfl
  simp only [stepM, stepK, opd, st_st, hbq, cond_true, hw, St.mm, Nat.min_eq_left hL, e]
 ·show (blk.c.splice 0 v.cells).get j = _
  rw [spliceGet, if_pos (by omega)]; simp
theorem al_ok (e : Nat) (z : List AVal) : stepM ro ⟨hp, l, p⟩ (.al e z) = some (.p (some ⟨false, hp.length, 0⟩), ⟨hp ++ [some (blkOf e z)], l, p⟩) := rfl
end
theorem ext0 (a : AVal) (l : List AVal) : evP .e (.ext 0 (.c (.tup (a :: l)))) = some a := rfl
theorem ext1 (a b : AVal) (l : List AVal) : evP .e (.ext 1 (.c (.tup (a :: b :: l)))) = some b := rfl
theorem ext2 (a b c : AVal) (l : List AVal) : evP .e (.ext 2 (.c (.tup (a :: b :: c :: l)))) = some c := rfl
section
variable {ro : List ABlk} {h : Heap} {v : AVal}
theorem row_by {hp : Heap} {z : List Int} (a : IsRow ro h v z) (k : Keep h hp) : IsRow ro hp v z := by
 rw [take_eq k.1 k.2]; exact a.ext _
end
theorem Holds.set {ro : List ABlk} {h hp : Heap} {b k : Nat} {vs : List AVal} {v : AVal} (a : Holds hp b vs) (hk : k < vs.length) (hv : v.one = true) (hc : v.cells = [v]) (hn : nonp [v] = true) (hL : h.length ≤ b) (kp : Keep h hp) :
  ∃ hp', stepM ro ⟨hp, h.length, h.length⟩ (.st 1 (.c (.p (some ⟨false, b, 0 + k * 1⟩))) (.c v)) = some (und, ⟨hp', h.length, h.length⟩) ∧ Holds hp' b (vs.set k v) ∧ hp'.length = hp.length ∧ (∀ i, i ≠ b → hp'[i]? = hp[i]?) ∧ Keep h hp' := by
 obtain ⟨blk, h1, h2, h3⟩ := a
 have e : 0 + k * 1 = k := by omega
 refine ⟨hp.set b (some { blk with c := blk.c.set k v }), ?_, ⟨_, qfs h1 _, by simpa using h2, fun j hj => ?_⟩, by simp, fun i hi => List.getElem?_set_ne (Ne.symm hi), kp.set hL _⟩
 ·rw [e, st_heap h1 (by omega) hv hc hn, Nat.min_eq_left hL]
 ·show (blk.c.set k v).get j = _
  rw [qdj]
  simp only [List.length_set] at hj
  by_cases e : k = j
  ·subst e; simp [List.getD, hj]
  ·rw [if_neg e, h3 j hj]
   simp [List.getD, List.getElem?_set_ne e]
theorem loop_st {S R : Type} {b : S → Option (S ⊕ R)} (st : Nat → S) (n : Nat) (step : Nat → Option R) (r0 : R) (hout : b (st n) = some (.inr r0)) (hin : ∀ i, i < n → b (st i) = some (match step i with | some r => .inr r | none => .inl (st (i + 1)))) :
  ∀ (k i : Nat), i + k = n → loopX b (st i) = some ((qhy step k i).getD r0)
 | 0, i, hi => by
  simp only [Nat.add_zero] at hi
  subst hi
  exact qew hout
 | k + 1, i, hi => by
  have h1 := hin i (by omega)
  unfold qhy
  cases hs : step i with
  | some r => rw [hs] at h1; exact qew h1
  | none =>
   rw [hs] at h1
   exact loopX_on h1 (loop_st st n step r0 hout hin k (i + 1) (by omega))
theorem loop_run {S R : Type} {b : S → Option (S ⊕ R)} (st : Nat → S) (n : Nat) {r0 : R} (hout : b (st n) = some (.inr r0)) (hin : ∀ i, i < n → b (st i) = some (.inl (st (i + 1)))) : loopX b (st 0) = some r0 := by
 have := loop_st st n (fun _ => none) r0 hout hin n 0 (by omega)
 rw [qef.2 fun _ _ _ => rfl] at this
 exact this
theorem loop_if {S R : Type} {b : S → Option (S ⊕ R)} (st : Nat → S) (n : Nat) (P : Nat → Prop) [DecidablePred P] (r0 r1 : R) (hout : b (st n) = some (.inr r0)) (hin : ∀ i, i < n → P i → b (st i) = some (.inl (st (i + 1)))) (hno : ∀ i, i < n → ¬ P i → b (st i) = some (.inr r1)) :
  loopX b (st 0) = some (if (∀ i, i < n → P i) then r0 else r1) := by
 have := loop_st st n (fun i => if P i then none else some r1) r0 hout (fun i hi => by
  by_cases hp : P i
  ·rw [if_pos hp]; exact hin i hi hp
  ·rw [if_neg hp]; exact hno i hi hp) n 0 (by omega)
 rw [this]
 by_cases hall : ∀ i, i < n → P i
 ·rw [if_pos hall, qef.2 fun j _ h2 => by rw [if_pos (hall j (by omega))]]; rfl
 ·rw [if_neg hall]
  cases hf : qhy (fun i => if P i then none else some r1) n 0 with
  | none =>
   refine absurd (fun i hi => ?_) hall
   have := qef.1 hf i (by omega) (by omega)
   simpa using this
  | some r =>
   obtain ⟨j, -, -, h3, -⟩ := qhj hf
   by_cases hc : P j
   ·rw [if_pos hc] at h3; cases h3
   ·rw [if_neg hc] at h3; cases h3; rfl
theorem dT {p : Prop} [Decidable p] (h : p) : decide p = true := decide_eq_true h
theorem dF {p : Prop} [Decidable p] (h : ¬ p) : decide p = false := decide_eq_false h
theorem cp {F : Tab} {ro : List ABlk} {h : Heap} {f : Nat} {a : List AVal} {v : AVal} {l p : Nat} (e : callX F ro f a h = some (v, h, h.length, h.length)) (hl : l ≤ h.length) (hp : p ≤ h.length) : callM (callX F ro) ⟨h, l, p⟩ f a = some (v, ⟨h, l, p⟩) :=
 callM_pure e hl hp
theorem cp0 {F : Tab} {ro : List ABlk} {h : Heap} {f : Nat} {a : List AVal} {v : AVal} (e : callX F ro f a h = some (v, h, h.length, h.length)) : callM (callX F ro) ⟨h, h.length, h.length⟩ f a = some (v, ⟨h, h.length, h.length⟩) :=
 callM_pure e (Nat.le_refl _) (Nat.le_refl _)
theorem cM {F : Tab} {ro : List ABlk} {h H : Heap} {f : Nat} {a : List AVal} {v : AVal} {l p : Nat} (e : callX F ro f a h = some (v, H, h.length, h.length)) (hl : l ≤ h.length) (hp : p ≤ h.length) : callM (callX F ro) ⟨h, l, p⟩ f a = some (v, ⟨H, l, p⟩) := by
 rw [callM_eq e, Nat.min_eq_left hl, Nat.min_eq_left hp]
theorem qft {h H : Heap} {w : AVal} (k : Keep h H) : ∃ H', finM h.length w ⟨H, h.length, h.length⟩ = some (w, H', h.length, h.length) ∧ Keep h H' ∧ (w.bel h.length = false → H' = H) := by
 obtain ⟨y, h1, h2⟩ := fin_gen (h := h) (h' := H) (v := w) (l := h.length) (p := h.length) k.1 k.2
 exact ⟨h ++ y, h1, Keep.app y, h2⟩
theorem row_down {ro : List ABlk} {h H : Heap} {v : AVal} {z : List Int} (k : Keep h H) (a : IsRow ro H v z) (hb : v.bel h.length = true) : IsRow ro h v z := by
 rcases a with ⟨rfl, rfl⟩ | ⟨q, cap, blk, rfl, hb2, hn, hc⟩
 ·exact .inl ⟨rfl, rfl⟩
 ·refine .inr ⟨q, cap, blk, rfl, ?_, hn, hc⟩
  have h1 : (q.ro || Nat.blt q.b h.length) = true := by simpa [AVal.bel] using hb
  unfold rdB at hb2 ⊢
  cases hr : q.ro
  ·rw [hr] at h1 hb2
   have h2 : q.b < h.length := by simpa [Nat.blt_eq] using h1
   simp only [cond_false] at hb2 ⊢
   rw [← qkw (k.2 q.b h2)]; exact hb2
  ·rw [hr] at hb2; exact hb2
theorem fin_rowW {ro : List ABlk} {h H : Heap} {v w : AVal} {z : List Int} (k : Keep h H) (a : IsRow ro H v z) (hw : w.bel h.length = v.bel h.length) :
  ∃ H', finM h.length w ⟨H, h.length, h.length⟩ = some (w, H', h.length, h.length) ∧ Keep h H' ∧ IsRow ro H' v z := by
 obtain ⟨H', h1, h2, h3⟩ := qft (w := w) k
 refine ⟨H', h1, h2, ?_⟩
 cases hb : w.bel h.length
 ·rw [h3 hb]; exact a
 ·exact row_by (row_down k a (by rw [← hw]; exact hb)) h2
theorem qbt {S R : Type} {b : S → Option (S ⊕ R)} (n : Nat) (I : Nat → S → Prop) (Q : R → Prop)
  (hin : ∀ i s, i < n → I i s → ∃ s', b s = some (.inl s') ∧ I (i + 1) s') (hout : ∀ s, I n s → ∃ r, b s = some (.inr r) ∧ Q r) :
  ∀ (k i : Nat) (s : S), i + k = n → I i s → ∃ r, loopX b s = some r ∧ Q r
 | 0, i, s, hk, hi => by
  obtain rfl : i = n := by omega
  obtain ⟨r, h1, h2⟩ := hout s hi
  exact ⟨r, qew h1, h2⟩
 | k + 1, i, s, hk, hi => by
  obtain ⟨s1, h1, h2⟩ := hin i s (by omega) hi
  obtain ⟨r, h3, h4⟩ := qbt n I Q hin hout k (i + 1) s1 (by omega) h2
  exact ⟨r, loopX_on h1 h3, h4⟩
theorem loop_exit {S R : Type} {b : S → Option (S ⊕ R)} (n : Nat) (I : Nat → S → Prop) (Q : R → Prop)
  (hin : ∀ i s, i < n → I i s → (∃ s', b s = some (.inl s') ∧ I (i + 1) s') ∨ ∃ r, b s = some (.inr r) ∧ Q r) (hout : ∀ s, I n s → ∃ r, b s = some (.inr r) ∧ Q r) :
  ∀ (k i : Nat) (s : S), i + k = n → I i s → ∃ r, loopX b s = some r ∧ Q r
 | 0, i, s, hk, hi => by
  obtain rfl : i = n := by omega
  obtain ⟨r, h1, h2⟩ := hout s hi
  exact ⟨r, qew h1, h2⟩
 | k + 1, i, s, hk, hi => by
  rcases hin i s (by omega) hi with ⟨s1, h1, h2⟩ | ⟨r, h1, h2⟩
  ·obtain ⟨r, h3, h4⟩ := loop_exit n I Q hin hout k (i + 1) s1 (by omega) h2
   exact ⟨r, loopX_on h1 h3, h4⟩
  ·exact ⟨r, qew h1, h2⟩
end Go.Proofs.Ytfohppnelbbepaa.T
/- Lists that a function makes by append. -/
open Go.Vm
set_option linter.unusedVariables false
set_option linter.unusedSectionVars false
namespace Go.Proofs.Ytfohppnelbbepaa.T
open Go
variable [Ovr]
theorem qgg {t : Tr} : ∀ (n i : Nat) (cs : List AVal), cs.length = n → (∀ j, j < n → t.get (i + j) = cs.getD j und) → t.row i n = cs := by
 intro n i cs hl h
 subst hl
 exact row_list cs i h
end Go.Proofs.Ytfohppnelbbepaa.T
/- Steps; lists of strings; the letters of a vine; readVine -/
open Go.Vm
set_option linter.unusedVariables false
set_option linter.unusedSectionVars false
namespace Go.Proofs.Ytfohppnelbbepaa.T
open Go
variable [Ovr]
section
variable {ro : List ABlk} {h : Heap}
theorem bindP_of {β : Type} {o : Option (AVal × Mm)} {v : AVal} {m : Mm} {f : AVal → Mm → Option β} (h : o = some (v, m)) : bindP o f = f v m := by rw [h]; rfl
theorem bindO_of {α β : Type} {o : Option α} {v : α} {f : α → Option β} (h : o = some v) : bindO o f = f v := by rw [h]; rfl
theorem pS {β : Type} (v : AVal) (m : Mm) (f : AVal → Mm → Option β) : bindP (some (v, m)) f = f v m := bindP_of (Eq.trans rfl rfl)
theorem oS {α β : Type} (v : α) (f : α → Option β) : bindO (some v) f = f v := bindO_of (Eq.trans rfl rfl)
theorem cT {α : Type} (a b : α) : cond true a b = a := by rw [cond_true]
theorem cF {α : Type} (a b : α) : cond false a b = b := by rw [cond_false]
theorem bS {β : Type} (b : Bool) (f : Bool → Option β) : asB (.b b) f = f b := (asB_b b f).trans (Eq.trans rfl rfl)
theorem sS {β : Type} (l : List UInt8) (f : List UInt8 → Option β) : asS (.s l) f = f l := Eq.trans rfl rfl
theorem iS {β : Type} (k : IntKind) (n : Int) (f : Int → Option β) : asI k (.i k n) f = f n := (asI_i k n f).trans (Eq.trans rfl rfl)
theorem x0 (a : AVal) (l : List AVal) : evP .e (.ext 0 (.c (.tup (a :: l)))) = some a := (ext0 a l).trans (Eq.trans rfl rfl)
theorem x1 (a b : AVal) (l : List AVal) : evP .e (.ext 1 (.c (.tup (a :: b :: l)))) = some b := (ext1 a b l).trans (Eq.trans rfl rfl)
theorem x2 (a b c : AVal) (l : List AVal) : evP .e (.ext 2 (.c (.tup (a :: b :: c :: l)))) = some c := (ext2 a b c l).trans (Eq.trans rfl rfl)
theorem tA (v : AVal) : tupA [v] = v := Eq.trans rfl rfl
theorem tA0 : tupA [] = .tup [] := Eq.trans rfl rfl
theorem tA2 (v w : AVal) : tupA [v, w] = .tup [v, w] := Eq.trans rfl rfl
theorem tA3 (v w x : AVal) : tupA [v, w, x] = .tup [v, w, x] := Eq.trans rfl rfl
theorem nT : (!true) = false := Eq.trans rfl rfl
theorem nF : (!false) = true := Eq.trans rfl rfl
theorem fB {α : Type} (n : Bool) (f : Bool → α) : qap n f = f n := (forceB_eq n f).trans (Eq.trans rfl rfl)
theorem fI' {α : Type} (n : Int) (f : Int → α) : qax n f = f n := (qlc n f).trans (Eq.trans rfl rfl)
theorem ckT {β : Type} (f : Option β) : chk true f = f := Eq.trans rfl rfl
theorem mC (F : Tab) (ro : List ABlk) : (qbs F ro).call = callX F ro := (meansX_call F ro).trans (Eq.trans rfl rfl)
theorem mR (F : Tab) (ro : List ABlk) : (qbs F ro).round = qdx F ro := Eq.trans rfl rfl
theorem qds (x : Int) : eqI x x = true := by rw [qjn]; simp
theorem qfa {x y : Int} (h : x ≠ y) : eqI x y = false := by rw [qjn]; simp [h]
theorem ltT {x y : Int} (h : x < y) : ltI x y = true := by rw [qji]; exact dT h
theorem ltF {x y : Int} (h : ¬ x < y) : ltI x y = false := by rw [qji]; exact dF h
theorem lt64 {n : Nat} (h : n ≤ 9223372036854775807) : wr .i64 (n : Int) = (n : Int) := wr_id' (by omega) (by omega)
theorem nx {k : Nat} (hk : k ≤ 1000000) : wr .i64 ((k : Int) + 1) = ((k + 1 : Nat) : Int) := by rw [wr_id' (by omega) (by omega)]; omega
theorem qcr {l : List UInt8} : evP .e (.len true (.c (.s l))) = some (.i .i64 (l.length : Int)) := by simp [evP, ev_len, opd, qbu]
theorem qha {q : Vm.Loc} {n : Nat} {c : Cap} : evP .e (.len false (.c (.sl q n c))) = some (.i .i64 (n : Int)) := by
 simp only [evP, ev_len, opd, cond_false, qbu]
abbrev bv (b : UInt8) : AVal := .i .u8 (b.toNat : Int)
theorem qgl {l : List UInt8} {i : Nat} (hi : i < l.length) : evP .e (.ixStr (.c (.s l)) (.c (.i .i64 (i : Int)))) = some (bv (l.getD i 0)) := by
 have e : ((i : Nat) : Int) = Int.ofNat i := rfl
 simp only [evP, qhz, opd, e, qbk, List.getElem?_eq_getElem hi, Option.map_some, qbu]
 simp [List.getD, hi]
/- lists of strings -/
theorem len_S {v : AVal} {z : List (List UInt8)} (a : IsS ro h v z) : evP .e (.len false (.c v)) = some (.i .i64 (z.length : Int)) := by
 rcases a with ⟨rfl, rfl⟩ | ⟨q, cap, blk, rfl, -⟩
 ·rfl
 ·exact qha
theorem rdB_by {hp : Heap} {q : Vm.Loc} {blk : ABlk} (hb : rdB ro h q = some blk) (k : Keep h hp) : rdB ro hp q = some blk := by
 rw [take_eq k.1 k.2]; exact rdB_ext _ hb
theorem S_by {hp : Heap} {v : AVal} {z : List (List UInt8)} (a : IsS ro h v z) (k : Keep h hp) : IsS ro hp v z := by
 rcases a with a | ⟨q, cap, blk, e, hb, hr⟩
 ·exact .inl a
 ·exact .inr ⟨q, cap, blk, e, rdB_by hb k, hr⟩
theorem S_bel {v : AVal} {z : List (List UInt8)} (a : IsS ro h v z) : v.bel h.length = true := by
 rcases a with ⟨rfl, -⟩ | ⟨q, cap, blk, rfl, hb, -⟩
 ·rfl
 ·simpa [AVal.bel] using rdB_lt hb
theorem at_S {v : AVal} {z : List (List UInt8)} (a : IsS ro h v z) {i : Nat} (hi : i < z.length) : ∃ p, evP .e (.ixS 1 (.c v) (.c (.i .i64 (i : Int)))) = some p ∧ ∀ {hp : Heap} {l q : Nat}, Keep h hp → ldM ro ⟨hp, l, q⟩ true 1 p = some (.s (z.getD i [])) ∧ ldA ro hp true 1 p = some (.s (z.getD i [])) := by
 rcases a with ⟨rfl, rfl⟩ | ⟨q, cap, blk, rfl, hb, hn, hc⟩
 ·simp at hi
 ·refine ⟨_, qdd hi, fun {hp l q'} k => ?_⟩
  have hb' := rdB_by hb k
  have h1 := rd_one (i := i) hb' (by omega)
  rw [hc i hi] at h1
  refine ⟨h1, ?_⟩
  have := rdB_lt hb'
  simp only [ldA, this, cond_true, h1]
theorem cells_S {v : AVal} {z : List (List UInt8)} (a : IsS ro h v z) : v.cells = [v] := by
 rcases a with ⟨rfl, -⟩ | ⟨q, cap, blk, rfl, -⟩ <;> rfl
theorem qbx {v w : AVal} (hv : v.bel h.length = true) (hw : w.bel h.length = true) : finM h.length (.tup [v, w]) ⟨h, h.length, h.length⟩ = some (.tup [v, w], h, h.length, h.length) := qbe (by simp [AVal.bel, bels, hv, hw])
/- parts -/
def ix (b : UInt8) : Nat := b.toNat - 97
def isL (n : Nat) (b : UInt8) : Prop := 97 ≤ b.toNat ∧ b.toNat < 97 + n
def has (n : Nat) (s : List UInt8) : Prop := ∀ i, i < s.length → isL n (s.getD i 0)
noncomputable instance {n : Nat} {s : List UInt8} : Decidable (has n s) := Classical.propDecidable _
instance {n : Nat} {b : UInt8} : Decidable (isL n b) := inferInstanceAs (Decidable (_ ∧ _))
theorem part54 {b : UInt8} : callX F1 ro 54 [bv b] h = some (.i .i64 ((b.toNat : Int) - 97), h, h.length, h.length) := by
 refine g54_ok (qav F1 ro) (Ovr.no rfl) ?_
 have := b.toNat_lt
 unfold g54
 simp only [fI', wr_id' (show -9223372036854775808 ≤ (b.toNat : Int) by omega) (show (b.toNat : Int) ≤ 9223372036854775807 by omega), wr_id' (show -9223372036854775808 ≤ (b.toNat : Int) - 97 by omega) (show (b.toNat : Int) - 97 ≤ 9223372036854775807 by omega), tA]
 exact qbe rfl
theorem qhf {b : UInt8} {n : Nat} (hb : isL n b) : callX F1 ro 54 [bv b] h = some (.i .i64 (ix b : Int), h, h.length, h.length) := by
 rw [part54]
 have : (b.toNat : Int) - 97 = ((ix b : Nat) : Int) := by unfold ix; have := hb.1; omega
 rw [this]
theorem has92 {v : AVal} {z : List (List UInt8)} {s : List UInt8} (a : IsS ro h v z) (hs : s.length ≤ 1000000) (hz : z.length ≤ 1000000) : callX F1 ro 92 [v, .s s] h = some (.b (decide (has z.length s)), h, h.length, h.length) := by
 refine g92_ok (qav F1 ro) (Ovr.no rfl) ?_
 unfold g92
 simp only [qcr, oS, iS, qaw]
 have hl := loop_if (b := fun s_1 : Int × Mm => g92_b0 (qbs F1 ro) ro v s (s.length : Int) s_1.1 s_1.2) (fun j => ((j : Int), (⟨h, h.length, h.length⟩ : Mm))) s.length (fun j => isL z.length (s.getD j 0)) (.inl ⟨h, h.length, h.length⟩) (.inr (false, ⟨h, h.length, h.length⟩)) ?_ ?_ ?_
 ·have e : ((((0 : Nat) : Int), (⟨h, h.length, h.length⟩ : Mm)) : Int × Mm) = (0, ⟨h, h.length, h.length⟩) := rfl
  rw [e] at hl
  rw [hl]
  simp only [oS]
  by_cases hh : ∀ i, i < s.length → isL z.length (s.getD i 0)
  ·rw [if_pos hh, dT (show has z.length s from hh)]
   simp only [tA]
   exact qbe rfl
  ·rw [if_neg hh, dF (show ¬ has z.length s from hh)]
   simp only [tA]
   exact qbe rfl
 ·simp only [g92_b0, fB, ltF (Int.lt_irrefl _), cF]
 ·intro i hi hp
  have hb := (s.getD i 0).toNat_lt
  have hp1 := hp.1
  have hp2 := hp.2
  simp only [g92_b0, fB, ltT (show (i : Int) < (s.length : Int) by omega), cT, qgl hi, oS, iS, mC, cp0 (qhf (ro := ro) (h := h) hp), pS, ltF (show ¬ ((ix (s.getD i 0) : Nat) : Int) < 0 by omega), cF, len_S a, ltT (show ((ix (s.getD i 0) : Nat) : Int) < (z.length : Int) by unfold ix; omega), nT, fI', nx (show i ≤ 1000000 by omega)]
 ·intro i hi hp
  have hb := (s.getD i 0).toNat_lt
  simp only [g92_b0, fB, ltT (show (i : Int) < (s.length : Int) by omega), cT, qgl hi, oS, iS, mC, cp0 (part54 (ro := ro) (h := h) (b := s.getD i 0)), pS]
  rcases Nat.lt_or_ge (s.getD i 0).toNat 97 with h1 | h1
  ·simp only [ltT (show ((s.getD i 0).toNat : Int) - 97 < 0 by omega), cT, oS]
  ·have h2 : ¬ ((s.getD i 0).toNat < 97 + z.length) := fun e => hp ⟨h1, e⟩
   simp only [ltF (show ¬ ((s.getD i 0).toNat : Int) - 97 < 0 by omega), cF, len_S a, oS, iS, ltF (show ¬ ((s.getD i 0).toNat : Int) - 97 < (z.length : Int) by omega), nF, cT]
noncomputable def errV (z : List (List UInt8)) : Int := if z.length < 1 ∨ 6 < z.length then 2 else if ∀ i, i < z.length → (z.getD i []).length ≤ 8 ∧ has z.length (z.getD i []) then 0 else 5
def few (z : List (List UInt8)) : Prop := z.length ≤ 20 ∧ ∀ i, i < z.length → (z.getD i []).length ≤ 50
theorem vine71 {v : AVal} {z : List (List UInt8)} (a : IsS ro h v z) (hz : z.length ≤ 1000000) (hf : ∀ i, i < z.length → (z.getD i []).length ≤ 1000000) : callX F1 ro 71 [v] h = some (.tup [if errV z = 0 then v else .nsl, .i .i64 (errV z)], h, h.length, h.length) := by
 refine g71_ok (qav F1 ro) (Ovr.no rfl) ?_
 unfold g71
 simp only [len_S a, oS, iS, fB]
 unfold errV
 rcases Nat.lt_or_ge z.length 1 with h1 | h1
 ·simp only [ltT (show (z.length : Int) < 1 by omega), cT, oS, if_pos (show z.length < 1 ∨ 6 < z.length by omega), tA2]
  exact qbx rfl rfl
 rcases Nat.lt_or_ge 6 z.length with h2 | h2
 ·simp only [ltF (show ¬ (z.length : Int) < 1 by omega), cF, ltT (show (6 : Int) < (z.length : Int) by omega), cT, oS, if_pos (show z.length < 1 ∨ 6 < z.length by omega), tA2]
  exact qbx rfl rfl
 simp only [ltF (show ¬ (z.length : Int) < 1 by omega), cF, ltF (show ¬ (6 : Int) < (z.length : Int) by omega), oS, if_neg (show ¬ (z.length < 1 ∨ 6 < z.length) by omega), qaw]
 have hl := loop_if (b := fun s : Int × Mm => g71_b1 (qbs F1 ro) ro v (z.length : Int) s.1 s.2) (fun j => ((j : Int), (⟨h, h.length, h.length⟩ : Mm))) z.length (fun j => (z.getD j []).length ≤ 8 ∧ has z.length (z.getD j [])) (.inl ⟨h, h.length, h.length⟩) (.inr (.nsl, 5, ⟨h, h.length, h.length⟩)) ?_ ?_ ?_
 ·have e : ((((0 : Nat) : Int), (⟨h, h.length, h.length⟩ : Mm)) : Int × Mm) = (0, ⟨h, h.length, h.length⟩) := rfl
  rw [e] at hl
  rw [hl]
  simp only [oS]
  by_cases hh : ∀ i, i < z.length → (z.getD i []).length ≤ 8 ∧ has z.length (z.getD i [])
  ·rw [if_pos hh, if_pos hh, if_pos rfl]
   simp only [tA2]
   exact qbx (S_bel a) rfl
  ·rw [if_neg hh, if_neg hh, if_neg (by decide)]
   simp only [tA2]
   exact qbx rfl rfl
 ·simp only [g71_b1, fB, ltF (Int.lt_irrefl _), cF]
 ·intro i hi hp
  obtain ⟨p, g1, g2⟩ := at_S a hi
  simp only [g71_b1, fB, ltT (show (i : Int) < (z.length : Int) by omega), cT, g1, oS, (g2 (Keep.refl h)).1, sS, qcr, iS, ltF (show ¬ (8 : Int) < ((z.getD i []).length : Int) by have := hp.1; omega), cF, mC, cp0 (has92 (s := z.getD i []) a (hf i hi) hz), pS, bS, dT hp.2, nT, fI', nx (show i ≤ 1000000 by omega)]
 ·intro i hi hp
  obtain ⟨p, g1, g2⟩ := at_S a hi
  simp only [g71_b1, fB, ltT (show (i : Int) < (z.length : Int) by omega), cT, g1, oS, (g2 (Keep.refl h)).1, sS, qcr, iS]
  rcases Nat.lt_or_ge 8 (z.getD i []).length with h3 | h3
  ·simp only [ltT (show (8 : Int) < ((z.getD i []).length : Int) by omega), cT, oS]
  ·have h4 : ¬ has z.length (z.getD i []) := fun e => hp ⟨h3, e⟩
   simp only [ltF (show ¬ (8 : Int) < ((z.getD i []).length : Int) by omega), cF, mC, cp0 (has92 (s := z.getD i []) a (hf i hi) hz), pS, bS, dF h4, nF, oS, cT]
end
end Go.Proofs.Ytfohppnelbbepaa.T
/- Letters, Vine, Shoot of the reference; read, readYears; few; same -/
open Go.Vm
set_option linter.unusedVariables false
set_option linter.unusedSectionVars false
namespace Go.Proofs.Ytfohppnelbbepaa.T
open Go
variable [Ovr]
section
variable {ro : List ABlk} {h : Heap}
theorem wr_u8 {n : Nat} (h : n ≤ 255) : wr .u8 (n : Int) = (n : Int) := by
 have e : ((n : Nat) : Int) = Int.ofNat n := rfl
 have e2 : Nat.ble n 255 = true := by rw [Nat.ble_eq]; exact h
 rw [e]
 simp only [wr, e2, cond_true]
noncomputable def errS (z : List (List UInt8)) (s : List UInt8) : Int := if errV z ≠ 0 then errV z else if s.length ≤ 30 ∧ has z.length s then 0 else 5
theorem qjm {z : List (List UInt8)} {s : List UInt8} (h : errS z s = 0) : errV z = 0 := by
 unfold errS at h
 by_cases h0 : errV z = 0
 ·exact h0
 ·rw [if_pos h0] at h; exact h
theorem errV_ok {z : List (List UInt8)} (h : errV z = 0) : 1 ≤ z.length ∧ z.length ≤ 6 ∧ ∀ i, i < z.length → (z.getD i []).length ≤ 8 ∧ has z.length (z.getD i []) := by
 unfold errV at h
 by_cases h1 : z.length < 1 ∨ 6 < z.length
 ·rw [if_pos h1] at h; omega
 ·rw [if_neg h1] at h
  by_cases h2 : ∀ i, i < z.length → (z.getD i []).length ≤ 8 ∧ has z.length (z.getD i [])
  ·exact ⟨by omega, by omega, h2⟩
  ·rw [if_neg h2] at h; omega
theorem qiu {z : List (List UInt8)} {s : List UInt8} (h : errS z s = 0) : s.length ≤ 30 ∧ has z.length s := by
 have h0 := qjm h
 unfold errS at h
 rw [if_neg (fun e => e h0)] at h
 by_cases h1 : s.length ≤ 30 ∧ has z.length s
 ·exact h1
 ·rw [if_neg h1] at h; omega
theorem read60 {v : AVal} {z : List (List UInt8)} {s : List UInt8} (a : IsS ro h v z) (hz : z.length ≤ 1000000) (hf : ∀ i, i < z.length → (z.getD i []).length ≤ 1000000) (hs : s.length ≤ 1000000) : callX F1 ro 60 [v, .s s] h = some (.tup [if errS z s = 0 then v else .nsl, .i .i64 (errS z s)], h, h.length, h.length) := by
 refine g60_ok (qav F1 ro) (Ovr.no rfl) ?_
 unfold g60
 simp only [mC, cp0 (vine71 a hz hf), pS, x0, x1, oS, iS, fB]
 by_cases h0 : errV z = 0
 rotate_left
 ·have e : errS z s = errV z := by unfold errS; rw [if_pos h0]
  rw [e, if_neg h0]
  simp only [qfa h0, nF, cT, tA2]
  exact qbx rfl rfl
 have e0 : eqI (errV z) 0 = true := by rw [h0]; rfl
 have e : errS z s = if s.length ≤ 30 ∧ has z.length s then 0 else 5 := by unfold errS; rw [if_neg (fun e => e h0)]
 rw [e, if_pos h0]
 simp only [e0, nT, cF, qcr, oS, iS]
 rcases Nat.lt_or_ge 30 s.length with h1 | h1
 ·simp only [ltT (show (30 : Int) < (s.length : Int) by omega), cT, oS, if_neg (show ¬ (s.length ≤ 30 ∧ has z.length s) from fun e => by have := e.1; omega), tA2]
  exact qbx rfl rfl
 ·simp only [ltF (show ¬ (30 : Int) < (s.length : Int) by omega), cF, cp0 (has92 (s := s) a hs hz), pS, bS, oS]
  by_cases h2 : has z.length s
  ·simp only [dT h2, nT, cF, oS, if_pos (⟨h1, h2⟩ : s.length ≤ 30 ∧ has z.length s), if_true, tA2]
   exact qbx (S_bel a) rfl
  ·simp only [dF h2, nF, cT, oS, if_neg (show ¬ (s.length ≤ 30 ∧ has z.length s) from fun e => h2 e.2), tA2]
   exact qbx rfl rfl
noncomputable def errY (z : List (List UInt8)) (s : List UInt8) (y : Int) : Int := if errS z s ≠ 0 then errS z s else if 0 ≤ y ∧ y ≤ 1000 then 0 else 3
theorem errY_ok {z : List (List UInt8)} {s : List UInt8} {y : Int} (h : errY z s y = 0) : errS z s = 0 ∧ ∃ k : Nat, y = (k : Int) ∧ k ≤ 1000 := by
 unfold errY at h
 by_cases h0 : errS z s = 0
 ·rw [if_neg (fun e => e h0)] at h
  by_cases h1 : 0 ≤ y ∧ y ≤ 1000
  ·obtain ⟨k, rfl⟩ := Int.eq_ofNat_of_zero_le h1.1
   exact ⟨h0, k, rfl, by omega⟩
  ·rw [if_neg h1] at h; omega
 ·rw [if_pos h0] at h; exact absurd h h0
theorem years47 {v : AVal} {z : List (List UInt8)} {s : List UInt8} {y : Int} (a : IsS ro h v z) (hz : z.length ≤ 1000000) (hf : ∀ i, i < z.length → (z.getD i []).length ≤ 1000000) (hs : s.length ≤ 1000000) : callX F1 ro 47 [v, .s s, .i .i64 y] h = some (.tup [if errY z s y = 0 then v else .nsl, .i .i64 (errY z s y)], h, h.length, h.length) := by
 refine g47_ok (qav F1 ro) (Ovr.no rfl) ?_
 unfold g47
 simp only [mC, cp0 (read60 a hz hf hs), pS, x0, x1, oS, iS, fB]
 unfold errY
 by_cases h0 : errS z s = 0
 rotate_left
 ·simp only [if_pos h0, qfa h0, nF, cT, if_neg h0, tA2]
  exact qbx rfl rfl
 have e0 : eqI (errS z s) 0 = true := by rw [h0]; rfl
 simp only [if_neg (show ¬ errS z s ≠ 0 from fun e => e h0), if_pos h0, e0, nT, cF]
 rcases Int.lt_or_le y 0 with h1 | h1
 ·simp only [ltT h1, cT, oS, if_neg (show ¬ (0 ≤ y ∧ y ≤ 1000) by omega), tA2]
  exact qbx rfl rfl
 rcases Int.lt_or_le 1000 y with h2 | h2
 ·simp only [ltF (show ¬ y < 0 by omega), cF, ltT h2, cT, oS, if_neg (show ¬ (0 ≤ y ∧ y ≤ 1000) by omega), tA2]
  exact qbx rfl rfl
 ·simp only [ltF (show ¬ y < 0 by omega), cF, ltF (show ¬ 1000 < y by omega), oS, if_pos (show 0 ≤ y ∧ y ≤ 1000 by omega), if_true, tA2]
  exact qbx (S_bel a) rfl
noncomputable instance {z : List (List UInt8)} : Decidable (few z) := inferInstanceAs (Decidable (_ ∧ _))
def fewB (z : List (List UInt8)) (s : List UInt8) : Prop := (∀ i, i < z.length → i < 20 ∧ (z.getD i []).length ≤ 50) ∧ s.length ≤ 100
noncomputable instance {z : List (List UInt8)} {s : List UInt8} : Decidable (fewB z s) := Classical.propDecidable _
theorem few15 {v : AVal} {z : List (List UInt8)} {s : List UInt8} (a : IsS ro h v z) : callX F1 ro 15 [v, .s s] h = some (.b (decide (fewB z s)), h, h.length, h.length) := by
 refine g15_ok (qav F1 ro) (Ovr.no rfl) ?_
 unfold g15
 simp only [qaw]
 obtain ⟨n, hn⟩ : ∃ n, n = min z.length 20 := ⟨_, rfl⟩
 have hl := loop_st (b := fun s_1 : Int => g15_b0 (qbs F1 ro) ro v s ⟨h, h.length, h.length⟩ s_1) (fun j => (j : Int)) n (fun i => if (z.getD i []).length ≤ 50 then none else some (.inr false)) (if z.length ≤ 20 then .inl () else .inr false) ?_ ?_ n 0 (by omega)
 ·have e : (((0 : Nat) : Int)) = 0 := rfl
  rw [e] at hl
  rw [hl]
  cases hf : qhy (fun i => if (z.getD i []).length ≤ 50 then none else some (Sum.inr false : Unit ⊕ Bool)) n 0 with
  | none =>
   have hall := qef.1 hf
   simp only [Option.getD_none]
   by_cases h20 : z.length ≤ 20
   ·rw [if_pos h20]
    simp only [oS, qcr, iS, fB, tA]
    have hz : ∀ i, i < z.length → i < 20 ∧ (z.getD i []).length ≤ 50 := fun i hi => by
     have := hall i (by omega) (by omega)
     by_cases hc : (z.getD i []).length ≤ 50
     ·exact ⟨by omega, hc⟩
     ·rw [if_neg hc] at this; cases this
    rcases Nat.lt_or_ge 100 s.length with h1 | h1
    ·simp only [ltT (show (100 : Int) < (s.length : Int) by omega), nT, dF (show ¬ fewB z s from fun e => by have := e.2; omega)]
     exact qbe rfl
    ·simp only [ltF (show ¬ (100 : Int) < (s.length : Int) by omega), nF, dT (show fewB z s from ⟨hz, h1⟩)]
     exact qbe rfl
   ·rw [if_neg h20]
    simp only [oS, tA, dF (show ¬ fewB z s from fun e => by have := (e.1 20 (by omega)).1; omega)]
    exact qbe rfl
  | some r =>
   obtain ⟨j, -, h2, h3, -⟩ := qhj hf
   simp only [Option.getD_some]
   by_cases hc : (z.getD j []).length ≤ 50
   ·rw [if_pos hc] at h3; cases h3
   ·rw [if_neg hc] at h3
    cases h3
    simp only [oS, tA, dF (show ¬ fewB z s from fun e => hc (e.1 j (by omega)).2)]
    exact qbe rfl
 ·rcases Nat.lt_or_ge 20 z.length with h1 | h1
  ·have : n = 20 := by omega
   subst this
   rw [if_neg (by omega)]
   simp only [g15_b0, len_S a, oS, iS, fB, ltT (show ((20 : Nat) : Int) < (z.length : Int) by omega), cT, ltF (show ¬ ((20 : Nat) : Int) < 20 by omega), nF]
  ·have : n = z.length := by omega
   subst this
   rw [if_pos h1]
   simp only [g15_b0, len_S a, oS, iS, fB, ltF (Int.lt_irrefl _), cF]
 ·intro i hi
  obtain ⟨p, g1, g2⟩ := at_S a (show i < z.length by omega)
  simp only [g15_b0, len_S a, oS, iS, fB, ltT (show (i : Int) < (z.length : Int) by omega), cT, ltT (show (i : Int) < 20 by omega), nT, cF, g1, (g2 (Keep.refl h)).1, sS, qcr]
  by_cases hc : (z.getD i []).length ≤ 50
  ·rw [if_pos hc]
   simp only [ltF (show ¬ (50 : Int) < ((z.getD i []).length : Int) by omega), cF, fI', nx (show i ≤ 1000000 by omega)]
  ·rw [if_neg hc]
   simp only [ltT (show (50 : Int) < ((z.getD i []).length : Int) by omega), cT]
theorem fewB_len {z : List (List UInt8)} {s : List UInt8} (e : fewB z s) : z.length ≤ 1000000 ∧ (∀ i, i < z.length → (z.getD i []).length ≤ 1000000) ∧ s.length ≤ 1000000 := by
 refine ⟨?_, fun i hi => by have := (e.1 i hi).2; omega, by have := e.2; omega⟩
 rcases Nat.lt_or_ge 20 z.length with h | h
 ·have := (e.1 20 h).1; omega
 ·omega
end
end Go.Proofs.Ytfohppnelbbepaa.T
/- Numbers that stop at 2 to the 63 -/
open Go.Vm
set_option linter.unusedVariables false
set_option linter.unusedSectionVars false
namespace Go.Proofs.Ytfohppnelbbepaa.T
open Go
variable [Ovr]
def sat (n : Nat) : Nat := min n 9223372036854775808
theorem sat_le (n : Nat) : sat n ≤ 9223372036854775808 := Nat.min_le_right _ _
theorem qkj (a b : Nat) : sat (sat a + sat b) = sat (a + b) := by unfold sat; omega
theorem sat_mul (a b : Nat) : sat (sat a * b) = sat (a * b) := by
 rcases Nat.eq_zero_or_pos b with rfl | hb
 ·simp
 unfold sat
 by_cases h : a ≤ 9223372036854775808
 ·rw [Nat.min_eq_left h]
 ·have h1 : min a 9223372036854775808 = 9223372036854775808 := by omega
  rw [h1]
  have h2 : 9223372036854775808 ≤ 9223372036854775808 * b := Nat.le_mul_of_pos_right _ hb
  have h3 : a ≤ a * b := Nat.le_mul_of_pos_right _ hb
  omega
theorem sat_sat (a : Nat) : sat (sat a) = sat a := by unfold sat; omega
theorem sat_id {a : Nat} (h : a ≤ 9223372036854775808) : sat a = a := Nat.min_eq_left h
theorem wr_u64 {x : Int} (h1 : 0 ≤ x) (h2 : x < 18446744073709551616) : wr .u64 x = x := by
 have e : wr .u64 x = x % 18446744073709551616 := by simp [wr, IntKind.wrap, IntKind.signed, IntKind.bits]
 rw [e]; omega
theorem u64n {n : Nat} (h : n < 18446744073709551616) : wr .u64 (n : Int) = (n : Int) := wr_u64 (by omega) (by omega)
theorem shr32 {n : Nat} : shrV .u64 (n : Int) 32 = ((n / 4294967296 : Nat) : Int) := by
 have e : (2 : Nat) ^ (min (32 : Int).toNat IntKind.u64.bits) = 4294967296 := by decide
 unfold shrV
 rw [e, Int.fdiv_eq_ediv_of_nonneg _ (by decide)]
 rfl
theorem and32 {n : Nat} (h : n < 18446744073709551616) : bitV .and .u64 (n : Int) 4294967295 = ((n % 4294967296 : Nat) : Int) := by
 have h1 : (BitVec.ofInt 64 (n : Int)).toNat = n := by
  rw [BitVec.ofInt_natCast, BitVec.toNat_ofNat]; exact Nat.mod_eq_of_lt (by omega)
 have h2 : (BitVec.ofInt 64 (4294967295 : Int)).toNat = 4294967295 := by decide
 have h3 : n &&& 4294967295 = n % 4294967296 := by
  have := Nat.and_two_pow_sub_one_eq_mod n 32
  simpa using this
 have e : bitV .and .u64 (n : Int) 4294967295 = wr .u64 (((BitVec.ofInt 64 (n : Int) &&& BitVec.ofInt 64 (4294967295 : Int)).toNat : Nat) : Int) := by
  simp only [bitV, Vm.bits, bitsS, numA, qbu, IntKind.bits]
  rfl
 rw [e, BitVec.toNat_and, h1, h2, h3, u64n (by omega)]
section
variable {ro : List ABlk} {h : Heap}
theorem mul127 {x y : Nat} (hx : x < 18446744073709551616) (hy : y < 18446744073709551616) : callX F1 ro 127 [.i .u64 (x : Int), .i .u64 (y : Int)] h = some (.tup [.i .u64 ((x * y / 18446744073709551616 : Nat) : Int), .i .u64 ((x * y % 18446744073709551616 : Nat) : Int)], h, h.length, h.length) := by
 refine g127_ok (qav F1 ro) (Ovr.no rfl) ?_
 unfold g127
 obtain ⟨a, ha⟩ : ∃ a, a = x / 4294967296 := ⟨_, rfl⟩
 obtain ⟨b, hb⟩ : ∃ b, b = x % 4294967296 := ⟨_, rfl⟩
 obtain ⟨c, hc⟩ : ∃ c, c = y / 4294967296 := ⟨_, rfl⟩
 obtain ⟨d, hd⟩ : ∃ d, d = y % 4294967296 := ⟨_, rfl⟩
 have hxa : x = a * 4294967296 + b := by omega
 have hyc : y = c * 4294967296 + d := by omega
 have a1 : a ≤ 4294967295 := by omega
 have b1 : b ≤ 4294967295 := by omega
 have c1 : c ≤ 4294967295 := by omega
 have d1 : d ≤ 4294967295 := by omega
 have hbd : b * d ≤ 4294967295 * 4294967295 := Nat.mul_le_mul b1 d1
 have had : a * d ≤ 4294967295 * 4294967295 := Nat.mul_le_mul a1 d1
 have hbc : b * c ≤ 4294967295 * 4294967295 := Nat.mul_le_mul b1 c1
 have hac : a * c ≤ 4294967295 * 4294967295 := Nat.mul_le_mul a1 c1
 have hxy : x * y = (a * c) * 18446744073709551616 + (a * d + b * c) * 4294967296 + b * d := by
  rw [hxa, hyc]
  have e : (18446744073709551616 : Nat) = 4294967296 * 4294967296 := by decide
  rw [e]
  generalize 4294967296 = B
  rw [Nat.add_mul, Nat.mul_add, Nat.mul_add, Nat.add_mul]
  have e1 : a * B * (c * B) = a * c * (B * B) := by rw [Nat.mul_mul_mul_comm]
  have e2 : a * B * d = a * d * B := by rw [Nat.mul_right_comm]
  have e3 : b * (c * B) = b * c * B := by rw [Nat.mul_assoc]
  rw [e1, e2, e3]; omega
 have f1 : wr .u64 ((b : Int) * (d : Int)) = ((b * d : Nat) : Int) := by rw [← Int.natCast_mul, u64n (by omega)]
 have f2 : wr .u64 ((a : Int) * (d : Int)) = ((a * d : Nat) : Int) := by rw [← Int.natCast_mul, u64n (by omega)]
 have f3 : wr .u64 ((b : Int) * (c : Int)) = ((b * c : Nat) : Int) := by rw [← Int.natCast_mul, u64n (by omega)]
 have f4 : wr .u64 ((a : Int) * (c : Int)) = ((a * c : Nat) : Int) := by rw [← Int.natCast_mul, u64n (by omega)]
 have f5 : wr .u64 ((x : Int) * (y : Int)) = ((x * y % 18446744073709551616 : Nat) : Int) := by
  have e : ∀ z : Int, wr .u64 z = z % 18446744073709551616 := fun z => by simp [wr, IntKind.wrap, IntKind.signed, IntKind.bits]
  rw [e, ← Int.natCast_mul]; omega
 generalize b * d = p at *
 generalize a * d = q at *
 generalize b * c = r at *
 generalize a * c = t at *
 have g1 : wr .u64 ((q : Int) + ((p / 4294967296 : Nat) : Int)) = ((q + p / 4294967296 : Nat) : Int) := by rw [← Int.natCast_add, u64n (by omega)]
 obtain ⟨u, hu⟩ : ∃ u, u = q + p / 4294967296 := ⟨_, rfl⟩
 have g2 : wr .u64 (((u % 4294967296 : Nat) : Int) + (r : Int)) = ((u % 4294967296 + r : Nat) : Int) := by rw [← Int.natCast_add, u64n (by omega)]
 have g3 : wr .u64 ((t : Int) + ((u / 4294967296 : Nat) : Int)) = ((t + u / 4294967296 : Nat) : Int) := by rw [← Int.natCast_add, u64n (by omega)]
 have g4 : wr .u64 (((t + u / 4294967296 : Nat) : Int) + (((u % 4294967296 + r) / 4294967296 : Nat) : Int)) = ((t + u / 4294967296 + (u % 4294967296 + r) / 4294967296 : Nat) : Int) := by rw [← Int.natCast_add, u64n (by omega)]
 have g5 : t + u / 4294967296 + (u % 4294967296 + r) / 4294967296 = x * y / 18446744073709551616 := by omega
 simp only [fI', and32 hx, and32 hy, shr32, ← ha, ← hb, ← hc, ← hd, f1, f2, f3, f4, f5, g1, ← hu, and32 (show u < 18446744073709551616 by omega), g2, g3, g4, g5, tA2]
 exact qbe rfl
theorem mxF {a c : Nat} : mxV false (a : Int) (c : Int) = ((min a c : Nat) : Int) := by
 unfold mxV
 simp only [Bool.false_eq_true, if_false]
 split <;> omega
theorem times126 {x y : Nat} (hx : x ≤ 9223372036854775808) (hy : y ≤ 9223372036854775808) : callX F1 ro 126 [.i .u64 (x : Int), .i .u64 (y : Int)] h = some (.i .u64 ((sat (x * y) : Nat) : Int), h, h.length, h.length) := by
 refine g126_ok (qav F1 ro) (Ovr.no rfl) ?_
 unfold g126
 simp only [mC, cp0 (mul127 (ro := ro) (h := h) (show x < 18446744073709551616 by omega) (show y < 18446744073709551616 by omega)), pS, x0, x1, oS, iS, fB]
 generalize x * y = p
 rcases Nat.eq_zero_or_pos (p / 18446744073709551616) with h0 | h0
 ·have e : ((9223372036854775808 : Nat) : Int) = 9223372036854775808 := rfl
  rw [h0]
  simp only [ltF (show ¬ (0 : Int) < ((0 : Nat) : Int) by omega), cF, fI', tA]
  rw [← e, mxF, show min (p % 18446744073709551616) 9223372036854775808 = sat p by unfold sat; omega]
  exact qbe rfl
 ·simp only [ltT (show (0 : Int) < ((p / 18446744073709551616 : Nat) : Int) by omega), cT, tA]
  rw [show sat p = 9223372036854775808 by unfold sat; omega]
  exact qbe rfl
theorem plus86 {x y : Nat} (hx : x ≤ 9223372036854775808) (hy : y ≤ 9223372036854775808) : callX F1 ro 86 [.i .u64 (x : Int), .i .u64 (y : Int)] h = some (.i .u64 ((sat (x + y) : Nat) : Int), h, h.length, h.length) := by
 refine g86_ok (qav F1 ro) (Ovr.no rfl) ?_
 unfold g86
 have e : wr .u64 (9223372036854775808 - (y : Int)) = 9223372036854775808 - (y : Int) := wr_u64 (by omega) (by omega)
 simp only [fI', e, fB]
 by_cases hc : 9223372036854775808 < x + y
 ·simp only [ltT (show 9223372036854775808 - (y : Int) < (x : Int) by omega), cT, tA]
  rw [show sat (x + y) = 9223372036854775808 by unfold sat; omega]
  exact qbe rfl
 ·have e2 : wr .u64 ((x : Int) + (y : Int)) = ((sat (x + y) : Nat) : Int) := by rw [wr_u64 (by omega) (by omega)]; unfold sat; omega
  simp only [ltF (show ¬ 9223372036854775808 - (y : Int) < (x : Int) by omega), cF, e2, tA]
  exact qbe rfl
end
end Go.Proofs.Ytfohppnelbbepaa.T
/- Lists and lists of lists in memory; rows that grow -/
open Go.Vm
set_option linter.unusedVariables false
set_option linter.unusedSectionVars false
namespace Go.Proofs.Ytfohppnelbbepaa.T
open Go
variable [Ovr]
section
variable {ro : List ABlk} {h hp : Heap} {α : Type} {enc : α → AVal}
def IsR (enc : α → AVal) (ro : List ABlk) (h : Heap) (v : AVal) (z : List α) : Prop :=
 (v = .nsl ∧ z = []) ∨ ∃ q cap blk, v = .sl q z.length cap ∧ rdB ro h q = some blk ∧ q.off + z.length ≤ blk.n ∧ ∀ j a, z[j]? = some a → blk.c.get (q.off + j) = enc a
def IsM (enc : α → AVal) (ro : List ABlk) (h : Heap) (v : AVal) (x : List (List α)) : Prop :=
 (v = .nsl ∧ x = []) ∨ ∃ q cap blk, v = .sl q x.length cap ∧ rdB ro h q = some blk ∧ q.off + x.length ≤ blk.n ∧ ∀ j z, x[j]? = some z → IsR enc ro h (blk.c.get (q.off + j)) z
theorem len_R {v : AVal} {z : List α} (a : IsR enc ro h v z) : evP .e (.len false (.c v)) = some (.i .i64 (z.length : Int)) := by
 rcases a with ⟨rfl, rfl⟩ | ⟨q, cap, blk, rfl, -⟩
 ·rfl
 ·exact qha
theorem len_M {v : AVal} {x : List (List α)} (a : IsM enc ro h v x) : evP .e (.len false (.c v)) = some (.i .i64 (x.length : Int)) := by
 rcases a with ⟨rfl, rfl⟩ | ⟨q, cap, blk, rfl, -⟩
 ·rfl
 ·exact qha
theorem R_by {v : AVal} {z : List α} (a : IsR enc ro h v z) (k : Keep h hp) : IsR enc ro hp v z := by
 rcases a with a | ⟨q, cap, blk, e, hb, hr⟩
 ·exact .inl a
 ·exact .inr ⟨q, cap, blk, e, rdB_by hb k, hr⟩
theorem M_by {v : AVal} {x : List (List α)} (a : IsM enc ro h v x) (k : Keep h hp) : IsM enc ro hp v x := by
 rcases a with a | ⟨q, cap, blk, e, hb, hn, hr⟩
 ·exact .inl a
 ·exact .inr ⟨q, cap, blk, e, rdB_by hb k, hn, fun j z hz => R_by (hr j z hz) k⟩
theorem M_cells {v : AVal} {z : List (List α)} (a : IsM enc ro h v z) : v.cells = [v] ∧ v.one = true := by
 rcases a with ⟨rfl, -⟩ | ⟨q, cap, blk, rfl, -⟩ <;> exact ⟨rfl, rfl⟩
theorem at_R {v : AVal} {z : List α} (a : IsR enc ro h v z) {i : Nat} {x : α} (hi : z[i]? = some x) : ∃ p, evP .e (.ixS 1 (.c v) (.c (.i .i64 (i : Int)))) = some p ∧ ∀ {hp : Heap} {l q : Nat}, Keep h hp → ldM ro ⟨hp, l, q⟩ true 1 p = some (enc x) ∧ ldA ro hp true 1 p = some (enc x) := by
 have hlt : i < z.length := (List.getElem?_eq_some_iff.1 hi).1
 rcases a with ⟨rfl, rfl⟩ | ⟨q, cap, blk, rfl, hb, hn, hc⟩
 ·simp at hlt
 ·refine ⟨_, qdd hlt, fun {hp l q'} k => ?_⟩
  have hb' := rdB_by hb k
  have h1 := rd_one (i := i) hb' (by omega)
  rw [hc i x hi] at h1
  refine ⟨h1, ?_⟩
  have := rdB_lt hb'
  simp only [ldA, this, cond_true, h1]
theorem at_M {v : AVal} {x : List (List α)} (a : IsM enc ro h v x) {i : Nat} {z : List α} (hi : x[i]? = some z) : ∃ p u, evP .e (.ixS 1 (.c v) (.c (.i .i64 (i : Int)))) = some p ∧ IsR enc ro h u z ∧ ∀ {hp : Heap} {l q : Nat}, Keep h hp → ldM ro ⟨hp, l, q⟩ true 1 p = some u ∧ ldA ro hp true 1 p = some u := by
 have hlt : i < x.length := (List.getElem?_eq_some_iff.1 hi).1
 rcases a with ⟨rfl, rfl⟩ | ⟨q, cap, blk, rfl, hb, hn, hc⟩
 ·simp at hlt
 ·refine ⟨_, _, qdd hlt, hc i z hi, fun {hp l q'} k => ?_⟩
  have hb' := rdB_by hb k
  have h1 := rd_one (i := i) hb' (by omega)
  refine ⟨h1, ?_⟩
  have := rdB_lt hb'
  simp only [ldA, this, cond_true, h1]
theorem Holds.put {b k : Nat} {vs : List AVal} {w : AVal} (a : Holds hp b vs) (hk : k < vs.length) (h1 : w.one = true) (hc : w.cells = [w]) : ∃ hp', (∀ l p, stepM ro ⟨hp, l, p⟩ (.st 1 (.c (.p (some ⟨false, b, 0 + k⟩))) (.c w)) = some (und, ⟨hp', min l b, cond (nonp [w]) p (min p b)⟩)) ∧ Holds hp' b (vs.set k w) ∧ hp'.length = hp.length ∧ ∀ i, i ≠ b → hp'[i]? = hp[i]? := by
 obtain ⟨blk, g1, g2, g3⟩ := a
 refine ⟨hp.set b (some { blk with c := blk.c.set k w }), fun l p => ?_, ⟨_, qfs g1 _, by simpa using g2, fun j hj => ?_⟩, by simp, fun i hi => List.getElem?_set_ne (Ne.symm hi)⟩
 ·have hw := wrH_heap (off := k) g1 (by omega : k < blk.n) h1
  have e : 0 + k = k := by omega
  have hbq : Nat.beq [w].length 1 = true := rfl
  simp only [stepM, stepK, opd, st_st, hc, hbq, cond_true, e, hw, St.mm]
 ·show (blk.c.set k w).get j = _
  rw [qdj]
  simp only [List.length_set] at hj
  by_cases e : k = j
  ·subst e; simp [List.getD, hj]
  ·rw [if_neg e, g3 j hj]
   simp [List.getD, List.getElem?_set_ne e]
theorem Holds.ld {b k : Nat} {vs : List AVal} {w : AVal} (a : Holds hp b vs) (hk : vs[k]? = some w) (l p : Nat) : ldM ro ⟨hp, l, p⟩ true 1 (.p (some ⟨false, b, 0 + k⟩)) = some w ∧ ldA ro hp true 1 (.p (some ⟨false, b, 0 + k⟩)) = some w := by
 have hlt : k < vs.length := (List.getElem?_eq_some_iff.1 hk).1
 have e : vs.getD k und = w := by rw [List.getD_eq_getElem?_getD, hk]; rfl
 have h1 := a.one (ro := ro) (l := l) (p := p) hlt
 have h2 := a.oneA (ro := ro) hlt
 rw [e] at h1 h2
 exact ⟨h1, h2⟩
theorem Holds.R {b : Nat} {z : List α} {c : Cap} (a : Holds hp b (z.map enc)) (n : Nat) (hn : n = z.length) : IsR enc ro hp (.sl ⟨false, b, 0⟩ n c) z := by
 subst hn
 obtain ⟨blk, h1, h2, h3⟩ := a
 refine .inr ⟨_, c, blk, rfl, qdi h1 0, by simpa using Nat.le_of_eq h2.symm, fun j x hj => ?_⟩
 have hlt : j < z.length := (List.getElem?_eq_some_iff.1 hj).1
 rw [Nat.zero_add, h3 j (by simpa using hlt)]
 simp [List.getD, hj]
theorem mk_ok {e es bytes : Nat} {z : List AVal} {n l p : Nat} (hn : n ≤ 1000) (hb : bytes ≤ 1000) : stepM ro ⟨hp, l, p⟩ (.mk e es bytes z (.c (.i .i64 (n : Int))) (.c (.i .i64 (n : Int)))) = some (.sl ⟨false, hp.length, 0⟩ n (.known n), ⟨hp ++ [some (blkOf e (rep z n))], l, p⟩) := by
 have e : ((n : Nat) : Int) = Int.ofNat n := rfl
 have h1 : n * bytes ≤ 1000 * 1000 := Nat.mul_le_mul hn hb
 have e1 : (Nat.ble n n && Nat.ble n 1048576 && Nat.ble (n * bytes) 281474976710656) = true := by
  simp only [Bool.and_eq_true, Nat.ble_eq]; omega
 simp only [stepM, stepK, opd, e, st_mk, e1, cond_true, newB, St.mm]
theorem qdr (v : AVal) : ∀ n, rep [v] n = List.replicate n v
 | 0 => rfl
 | n + 1 => by rw [rep, qdr v n]; rfl
def RowG (hp : Heap) (L e : Nat) (v : AVal) (vs : List AVal) : Prop :=
 (v = .nsl ∧ vs = []) ∨ ∃ b blk, v = .sl ⟨false, b, 0⟩ vs.length .grow ∧ 0 < vs.length ∧ L ≤ b ∧ lget hp b = some (some blk) ∧ blk.e = e ∧ blk.n = vs.length ∧ ∀ j, j < vs.length → blk.c.get j = vs.getD j und
theorem RowG.nil (hp : Heap) (L e : Nat) : RowG hp L e .nsl [] := .inl ⟨rfl, rfl⟩
def rb (v : AVal) : Option Nat := match v with
 | .sl q _ _ => some q.b
 | _ => none
theorem RowG.by {hp' : Heap} {L e : Nat} {v : AVal} {vs : List AVal} (g : RowG hp L e v vs) (kp : ∀ b, rb v = some b → hp'[b]? = hp[b]?) : RowG hp' L e v vs := by
 rcases g with g | ⟨b, blk, rfl, h2, h3, h4, h5⟩
 ·exact .inl g
 ·exact .inr ⟨b, blk, rfl, h2, h3, by rw [qkw (kp b rfl)]; exact h4, h5⟩
theorem RowG.keep {hp' : Heap} {L e : Nat} {v : AVal} {vs : List AVal} (g : RowG hp L e v vs) (kp : Keep hp hp') : RowG hp' L e v vs := by
 rcases g with g | ⟨b, blk, rfl, h2, h3, h4, h5⟩
 ·exact .inl g
 ·exact .inr ⟨b, blk, rfl, h2, h3, by rw [qkw (kp.2 b (qgk h4))]; exact h4, h5⟩
theorem RowG.holds {L e : Nat} {v : AVal} {vs : List AVal} (g : RowG hp L e v vs) {b : Nat} (hb : rb v = some b) : Holds hp b vs ∧ L ≤ b ∧ v = .sl ⟨false, b, 0⟩ vs.length .grow := by
 rcases g with ⟨rfl, -⟩ | ⟨b', blk, rfl, h2, h3, h4, h5, h6, h7⟩
 ·cases hb
 ·cases hb
  exact ⟨⟨blk, h4, h6, h7⟩, h3, rfl⟩
theorem RowG.isR {L e : Nat} {v : AVal} {z : List α} (g : RowG hp L e v (z.map enc)) : IsR enc ro hp v z := by
 rcases g with ⟨rfl, h⟩ | ⟨b', blk, rfl, h2, h3, h4, h5, h6, h7⟩
 ·exact .inl ⟨rfl, by simpa using h⟩
 ·exact Holds.R ⟨blk, h4, h6, h7⟩ _ (by simp)
theorem RowG.push {L e bytes l p : Nat} {z : AVal} {v w : AVal} {vs : List AVal} (g : RowG hp L e v vs) (hL : L ≤ hp.length) (hk : vs.length ≤ 200000) (hb : bytes ≤ 1000) (hw : w.cells = [w]) (ho : w.one = true) :
  ∃ hp2 hp3 l' p', stepM ro ⟨hp, l, p⟩ (.bsl e 1 [z] 1 [((0, 1), .c w)]) = some (.sl ⟨false, hp.length, 0⟩ 1 (.known 1), ⟨hp2, l, p⟩) ∧
   stepM ro ⟨hp2, l, p⟩ (.app e 1 bytes [z] (.c v) (.c (.sl ⟨false, hp.length, 0⟩ 1 (.known 1)))) = some (.sl ⟨false, hp.length + 1, 0⟩ (vs.length + 1) .grow, ⟨hp3, l', p'⟩) ∧
   RowG hp3 L e (.sl ⟨false, hp.length + 1, 0⟩ (vs.length + 1) .grow) (vs ++ [w]) ∧ hp2.length = hp.length + 1 ∧ hp3.length = hp.length + 2 ∧ (∀ i, i < hp.length → rb v ≠ some i → hp3[i]? = hp[i]?) ∧ (∀ a, a ≤ L → a ≤ l → a ≤ p → a ≤ l' ∧ a ≤ p') ∧ l' ≤ l ∧ p' ≤ p := by
 have s1 : stepM ro ⟨hp, l, p⟩ (.bsl e 1 [z] 1 [((0, 1), .c w)]) = some (.sl ⟨false, hp.length, 0⟩ 1 (.known 1), ⟨hp ++ [some (blkOf e [w])], l, p⟩) := by
  simp [stepM, stepK, qjb, rep, fillA, opd, hw, splice, newB, St.mm]
 have hbq : rdB ro (hp ++ [some (blkOf e [w])]) ⟨false, hp.length, 0⟩ = some (blkOf e [w]) := by simp [rdB, qbk]
 have hg : (blkOf e [w]).c.row 0 1 = [w] := qgg 1 0 [w] rfl fun j hj => by rw [Nat.zero_add, qdu]
 have src : qeo ro (hp ++ [some (blkOf e [w])]) 1 (.sl ⟨false, hp.length, 0⟩ 1 (.known 1)) = some ([w], 1) := by
  have hble : Nat.ble (0 + 1 * 1) (blkOf e [w]).n = true := rfl
  simp only [qeo, hbq, hble, cond_true, Nat.mul_one, hg]
 obtain ⟨hp2, e2⟩ : ∃ hp2, hp2 = hp ++ [some (blkOf e [w])] := ⟨_, rfl⟩
 rw [← e2] at src s1
 have hlen2 : hp2.length = hp.length + 1 := by rw [e2]; simp
 have hb10 : Nat.beq 1 0 = false := rfl
 rcases g with ⟨rfl, rfl⟩ | ⟨b, blk, rfl, hpos, hLb, hbk, hbe, hbn, hrows⟩
 ·refine ⟨hp2, hp2 ++ [some (blkOf e [w])], l, p, s1, ?_, .inr ⟨hp.length + 1, blkOf e [w], rfl, by simp, by omega, ?_, rfl, rfl, fun j hj => qdu _ _ _⟩, hlen2, by simp [hlen2], fun i hi _ => ?_, fun a _ h2 h3 => ⟨h2, h3⟩, Nat.le_refl _, Nat.le_refl _⟩
  ·simp only [stepM, stepK, opd, qgb, src, hb10, cond_false, qez (by omega : 1 ≤ 1000000) hb, cond_true, newB, St.mm, hlen2, List.length_nil, Nat.zero_add]
  ·have := qed hp2 (some (blkOf e [w]))
   rwa [hlen2] at this
  ·rw [e2, List.append_assoc, List.getElem?_append_left hi]
 ·have hlt : b < hp.length := qgk hbk
  have hb2 : lget hp2 b = some (some blk) := by rw [e2]; exact lget_ext hbk _
  have hrow : blk.c.row 0 (vs.length * 1) = vs := qgg (vs.length * 1) 0 vs (by omega) fun j hj => by rw [Nat.zero_add]; exact hrows j (by omega)
  refine ⟨hp2, lset none hp2 b ++ [some (blkOf e (vs ++ [w]))], min l b, min p b, s1, ?_, .inr ⟨hp.length + 1, blkOf e (vs ++ [w]), by simp, by simp, by omega, ?_, rfl, rfl, fun j hj => qdu _ _ _⟩, hlen2, by simp [qby, hlen2], fun i hi hn => ?_, fun a h1 h2 h3 => ⟨by omega, by omega⟩, Nat.min_le_left _ _, Nat.min_le_left _ _⟩
  ·have h1 : (Nat.beq blk.e e && Nat.ble (vs.length * 1) blk.n && fits (vs.length + 1) bytes && ones [w]) = true := by
    rw [hbe, qez (by omega : vs.length + 1 ≤ 1000000) hb]
    simp [ho, Nat.ble_eq, ones]; omega
   have h2 : (!Nat.beq 0 0) = false := rfl
   have h3 : Nat.blt 0 blk.n = true := by rw [Nat.blt_eq]; omega
   simp only [stepM, stepK, opd, qgb, src, qfy, hb10, h2, cond_false, Bool.or_false, hb2, h1, h3, Bool.and_self, cond_true, St.mm, hrow, hlen2]
  ·rw [qbk, qby, List.getElem?_append_right (by simp; omega)]
   simp [hlen2]
  ·have hne : b ≠ i := fun e => hn (by rw [e]; rfl)
   rw [qby, List.getElem?_append_left (by simp; omega), List.getElem?_set_ne hne, e2, List.getElem?_append_left hi]
theorem joinL {hp hp' : Heap} {L l p : Nat} (h1 : L ≤ l) (h2 : L ≤ p) : Mm.join ⟨hp, L, L⟩ ⟨hp', l, p⟩ = ⟨hp', L, L⟩ := by simp only [Mm.join, Nat.min_eq_left h1, Nat.min_eq_left h2]
theorem baseL {hp : Heap} {l p : Nat} : Mm.base ⟨hp, l, p⟩ = ⟨hp, hp.length, hp.length⟩ := rfl
theorem chkL {a b : Nat} (h : b ≤ a) : (!Nat.blt a b) = true := by
 have : Nat.blt a b = false := by rw [← Bool.not_eq_true, Nat.blt_eq]; omega
 rw [this]; rfl
end
end Go.Proofs.Ytfohppnelbbepaa.T
/- A letter; how often a string has it; new matrices -/
open Go.Vm
set_option linter.unusedVariables false
set_option linter.unusedSectionVars false
namespace Go.Proofs.Ytfohppnelbbepaa.T
open Go
variable [Ovr]
section
variable {ro : List ABlk} {h : Heap}
theorem letter89 {p : Nat} (hp : p ≤ 100) : callX F1 ro 89 [.i .i64 (p : Int)] h = some (.s [UInt8.ofNat (97 + p)], h, h.length, h.length) := by
 refine g89_ok (qav F1 ro) (Ovr.no rfl) ?_
 unfold g89
 have e1 : wr .u8 (97 + (p : Int)) = ((97 + p : Nat) : Int) := by rw [show (97 : Int) + (p : Int) = ((97 + p : Nat) : Int) by omega, wr_u8 (by omega)]
 have s1 : stepM ro ⟨h, h.length, h.length⟩ (.bsl 5 1 [(AVal.i IntKind.u8 0)] 1 [((0, 1), .c (.i .u8 ((97 + p : Nat) : Int)))]) = some (.sl ⟨false, h.length, 0⟩ 1 (.known 1), ⟨h ++ [some (blkOf 5 [.i .u8 ((97 + p : Nat) : Int)])], h.length, h.length⟩) := by
  simp [stepM, stepK, qjb, rep, fillA, opd, AVal.cells, splice, newB, St.mm]
 have hbq : rdB ro (h ++ [some (blkOf 5 [.i .u8 ((97 + p : Nat) : Int)])]) ⟨false, h.length, 0⟩ = some (blkOf 5 [.i .u8 ((97 + p : Nat) : Int)]) := by simp [rdB, qbk]
 have hg : (blkOf 5 [AVal.i .u8 ((97 + p : Nat) : Int)]).c.row 0 1 = [.i .u8 ((97 + p : Nat) : Int)] := qgg 1 0 _ rfl fun j hj => by rw [Nat.zero_add, qdu]
 have s2 : btsM ro ⟨h ++ [some (blkOf 5 [.i .u8 ((97 + p : Nat) : Int)])], h.length, h.length⟩ (.sl ⟨false, h.length, 0⟩ 1 (.known 1)) = some (.s [UInt8.ofNat (97 + p)]) := by
  have hble : Nat.ble (0 + 1) (blkOf 5 [AVal.i .u8 ((97 + p : Nat) : Int)]).n = true := rfl
  have e : ((97 + p : Nat) : Int) = Int.ofNat (97 + p) := rfl
  have e3 : Nat.blt (97 + p) 256 = true := by rw [Nat.blt_eq]; omega
  simp only [btsM, qki, hbq, hble, cond_true, hg]
  rw [e]
  simp only [qdz, e3, cond_true, Option.map_some]
 simp only [fI', wr_u8 (show p ≤ 255 by omega), e1, s1, pS, s2, oS, sS, tA]
 exact qce (Keep.app _) rfl
theorem count88 {l : List UInt8} {c : UInt8} : callX F1 ro 88 [.s l, .s [c]] h = some (.i .i64 ((l.count c : Nat) : Int), h, h.length, h.length) := by
 refine g88_ok (qav F1 ro) (Ovr.no rfl) ?_
 unfold g88
 have e0 : eqI (([c] : List UInt8).length : Int) 0 = false := rfl
 have e1 : eqI (([c] : List UInt8).length : Int) 1 = true := rfl
 have e2 : evP .e (.ixStr (.c (.s [c])) (.c (.i .i64 0))) = some (bv c) := qgl (l := [c]) (i := 0) (by simp)
 have hc := c.toNat_lt
 have s1 : stepM ro ⟨h, h.length, h.length⟩ (.cnt (.c (.s l)) (.c (bv c))) = some (.i .i64 ((l.count c : Nat) : Int), ⟨h, h.length, h.length⟩) := by
  have e : ((c.toNat : Nat) : Int) = Int.ofNat c.toNat := rfl
  have e3 : Nat.blt c.toNat 256 = true := by rw [Nat.blt_eq]; exact hc
  have e4 : UInt8.ofNat c.toNat = c := UInt8.ofNat_toNat
  simp only [stepM, stepK, opd, bv, e, st_cnt, e3, cond_true, qbu, St.mm, e4]
 simp only [qcr, oS, iS, fB, e0, cF, e1, cT, e2, s1, pS, tA]
 exact qbe rfl
theorem ix_ofNat {p : Nat} (hp : p ≤ 100) : ix (UInt8.ofNat (97 + p)) = p := by
 unfold ix
 rw [UInt8.toNat_ofNat']
 omega
end
def NewM {α : Type} (enc : α → AVal) (H : Heap) (L : Nat) (w : AVal) (x : List (List α)) : Prop := ∃ (bs : Nat → Nat) (cs : Nat → Cap), w = .sl ⟨false, L, 0⟩ x.length (.known x.length) ∧
 Holds H L ((List.range x.length).map fun r => .sl ⟨false, bs r, 0⟩ (x.getD r []).length (cs r)) ∧ (∀ r, r < x.length → L < bs r ∧ Holds H (bs r) ((x.getD r []).map enc)) ∧ ∀ r r', r < x.length → r' < x.length → bs r = bs r' → r = r'
theorem NewM.isM {α : Type} {enc : α → AVal} {ro : List ABlk} {H : Heap} {L : Nat} {w : AVal} {x : List (List α)} (a : NewM enc H L w x) : IsM enc ro H w x := by
 obtain ⟨bs, cs, rfl, h1, h2, -⟩ := a
 obtain ⟨blk, k1, k2, k3⟩ := h1
 simp only [List.length_map, List.length_range] at k2 k3
 refine .inr ⟨_, _, blk, rfl, qdi k1 0, by show 0 + x.length ≤ blk.n; omega, fun j z hj => ?_⟩
 have hlt : j < x.length := (List.getElem?_eq_some_iff.1 hj).1
 rw [Nat.zero_add, k3 j hlt]
 have e1 : ((List.range x.length).map fun r => AVal.sl ⟨false, bs r, 0⟩ (x.getD r []).length (cs r)).getD j und = .sl ⟨false, bs j, 0⟩ (x.getD j []).length (cs j) := by simp [List.getD, hlt]
 have e2 : x.getD j [] = z := by rw [List.getD_eq_getElem?_getD, hj]; rfl
 rw [e1]
 have := (h2 j hlt).2
 rw [e2] at this ⊢
 exact this.R _ rfl
end Go.Proofs.Ytfohppnelbbepaa.T
/- matrix U -/
open Go.Vm
set_option linter.unusedVariables false
set_option linter.unusedSectionVars false
namespace Go.Proofs.Ytfohppnelbbepaa.T
open Go
variable [Ovr]
abbrev eU (n : Nat) : AVal := .i .u64 (n : Int)
abbrev eB (b : Bool) : AVal := .b b
abbrev cU (n : Nat) : Nat := n
abbrev cB (n : Nat) : Bool := decide (0 < n)
/- matrix, for many -/
section
variable {ro : List ABlk} {h : Heap}
theorem as56 {k : Nat} (hk : k ≤ 1000000) : callX F1 ro 56 [.i .i64 (k : Int)] h = some (eU (cU k), h, h.length, h.length) := by
 refine g56_ok (qav F1 ro) (Ovr.no rfl) ?_
 unfold g56
 simp only [fI', u64n (show k < 18446744073709551616 by omega), tA]
 exact qbe rfl
def mat55 (z : List (List UInt8)) : List (List Nat) := (List.range z.length).map fun p => z.map fun s => cU (s.count (UInt8.ofNat (97 + p)))
theorem matrix55 {v : AVal} {z : List (List UInt8)} (a : IsS ro h v z) (h1 : 1 ≤ z.length) (h6 : z.length ≤ 6) (h8 : ∀ i, i < z.length → (z.getD i []).length ≤ 8) :
  ∃ w H, callX F1 ro 55 [v, .fn 56 [] []] h = some (w, H, h.length, h.length) ∧ Keep h H ∧ NewM eU H h.length w (mat55 z) := by
 obtain ⟨n, hn⟩ : ∃ n, n = z.length := ⟨_, rfl⟩
 obtain ⟨L, hL⟩ : ∃ L, L = h.length := ⟨_, rfl⟩
 have hm := mk_ok (ro := ro) (hp := h) (e := 63) (es := 1) (bytes := 24) (z := [AVal.nsl]) (n := n) (l := L) (p := L) (by omega) (by omega)
 obtain ⟨H0, hH0⟩ : ∃ H0, H0 = h ++ [some (blkOf 63 (rep [AVal.nsl] n))] := ⟨_, rfl⟩
 rw [← hH0, ← hL] at hm
 have k0 : Keep h H0 := by rw [hH0]; exact Keep.app _
 have l0 : H0.length = L + 1 := by rw [hH0, hL]; simp
 have ho0 : Holds H0 L (List.replicate n .nsl) := by
  have := Holds.new h 63 (rep [AVal.nsl] n)
  rw [← hH0, ← hL, qdr] at this
  exact this
 obtain ⟨row, hrow⟩ : ∃ row : Nat → List AVal, row = fun p => z.map fun s => eU (cU (s.count (UInt8.ofNat (97 + p)))) := ⟨_, rfl⟩
 have hrl : ∀ p, (row p).length = n := fun p => by rw [hrow, hn]; simp
 -- what holds behind p rows
 obtain ⟨O, hO⟩ : ∃ O : Nat → Heap → List AVal → Prop, O = fun p K cl => Keep h K ∧ L < K.length ∧ Holds K L cl ∧ cl.length = n ∧ (∀ r, r < p → ∃ b, cl[r]? = some (.sl ⟨false, b, 0⟩ n .grow) ∧ L < b ∧ b < K.length ∧ Holds K b (row r)) ∧
   (∀ r, p ≤ r → r < n → cl[r]? = some .nsl) ∧ ∀ r r' b, r < p → r' < p → cl[r]? = some (.sl ⟨false, b, 0⟩ n .grow) → cl[r']? = some (.sl ⟨false, b, 0⟩ n .grow) → r = r' := ⟨_, rfl⟩
 have key : ∃ r, loopX (fun s : Int × Mm => g55_b0 (qbs F1 ro) ro v (.fn 56 [] []) (.sl ⟨false, L, 0⟩ n (.known n)) (n : Int) s.1 s.2) (0, ⟨H0, L, L⟩) = some r ∧ ∃ K cl, r = ⟨K, L, L⟩ ∧ O n K cl := by
  refine qbt n (fun p s => ∃ K cl, s = ((p : Int), ⟨K, L, L⟩) ∧ O p K cl) _ ?_ ?_ n 0 _ (by omega) ⟨H0, List.replicate n .nsl, rfl, ?_⟩
  ·rintro p s hp ⟨K, cl, rfl, ho⟩
   rw [hO] at ho
   obtain ⟨kK, lK, hK, cK, c1, c2, c3⟩ := ho
   obtain ⟨B, hB⟩ : ∃ B, B = K.length := ⟨_, rfl⟩
   have inner : ∃ r, loopX (fun s : Int × Mm => g55_b1 (qbs F1 ro) ro v (.fn 56 [] []) (.sl ⟨false, L, 0⟩ n (.known n)) (p : Int) (n : Int) (n : Int) s.1 s.2) (0, ⟨K, L, L⟩) = some r ∧ ∃ J u, r = ⟨J, L, L⟩ ∧ Keep h J ∧ B ≤ J.length ∧ Holds J L (cl.set p u) ∧ RowG J (L + 1) 61 u (row p) ∧ (∀ b, rb u = some b → B ≤ b) ∧ ∀ i, L < i → i < B → J[i]? = K[i]? := by
    refine qbt n (fun q s => ∃ J u, s = ((q : Int), ⟨J, L, L⟩) ∧ Keep h J ∧ B ≤ J.length ∧ Holds J L (cl.set p u) ∧ RowG J (L + 1) 61 u ((row p).take q) ∧ (∀ b, rb u = some b → B ≤ b) ∧ ∀ i, L < i → i < B → J[i]? = K[i]?) _ ?_ ?_ n 0 _ (by omega) ⟨K, .nsl, rfl, kK, by omega, ?_, RowG.nil _ _ _, (fun b e => by cases e), fun _ _ _ => rfl⟩
    ·rintro q s hq ⟨J, u, rfl, kJ, lJ, hJ, gJ, bJ, oJ⟩
     have aJ := S_by a kJ
     obtain ⟨p1, i1, i2⟩ := at_S aJ (show q < z.length by omega)
     obtain ⟨m1, m2⟩ := hJ.ld (ro := ro) (k := p) (w := u) (by simp [cK, hp]) J.length J.length
     have hstr : (z.getD q []).length ≤ 8 := h8 q (by omega)
     obtain ⟨k, hk⟩ : ∃ k, k = (z.getD q []).count (UInt8.ofNat (97 + p)) := ⟨_, rfl⟩
     have hk8 : k ≤ 8 := by rw [hk]; exact Nat.le_trans List.count_le_length hstr
     have rq : (row p)[q]? = some (eU (cU k)) := by
      have hqz : q < z.length := by omega
      rw [hrow, hk]
      simp [hqz, List.getD]
     have rl := hrl p
     obtain ⟨J2, J3, l', p', s1, s2, g2, n2, n3, e3, b3, -⟩ := gJ.push (ro := ro) (l := J.length) (p := J.length) (bytes := 8) (z := (AVal.i IntKind.u64 0)) (w := eU (cU k)) (by omega) (by rw [List.length_take]; omega) (by omega) rfl rfl
     have hlq : ((row p).take q).length = q := by rw [List.length_take]; omega
     rw [hlq] at s2 g2
     have hLu : rb u ≠ some L := fun e => by
      rcases gJ with ⟨e2, -⟩ | ⟨b, blk, e2, -, e4, -⟩
      ·rw [e2] at e; cases e
      ·rw [e2] at e
       have e5 : b = L := by simpa [rb] using e
       omega
     have hJ3 : Holds J3 L (cl.set p u) := hJ.keep (e3 L (by omega) hLu)
     obtain ⟨J4, s4, h4, n4, e4⟩ := hJ3.put (ro := ro) (k := p) (w := .sl ⟨false, J.length + 1, 0⟩ (q + 1) .grow) (by simp [cK, hp]) rfl rfl
     obtain ⟨b31, b32⟩ := b3 L (by omega) (by omega) (by omega)
     have hnp : nonp [AVal.sl ⟨false, J.length + 1, 0⟩ (q + 1) .grow] = false := rfl
     have s4' := s4 l' p'
     rw [hnp, cond_false] at s4'
     have hst : (cl.set p u).set p (.sl ⟨false, J.length + 1, 0⟩ (q + 1) .grow) = cl.set p (.sl ⟨false, J.length + 1, 0⟩ (q + 1) .grow) := by simp
     rw [hst] at h4
     have htk : (row p).take (q + 1) = (row p).take q ++ [eU (cU k)] := by rw [List.take_succ_eq_append_getElem (by omega)]; congr 1; rw [List.getElem?_eq_getElem (by omega)] at rq; simpa using rq
     refine ⟨_, (by simp only [g55_b1, fB, ltT (show (q : Int) < (n : Int) by omega), cT, i1, oS, (i2 (Keep.refl J)).1, sS, baseL, qdd (show p < n from hp), m2, mC, qgq, List.nil_append, List.append_nil, cp0 (letter89 (ro := ro) (h := J) (show p ≤ 100 by omega)), pS, chkL (Nat.le_refl J.length), ckT, cp0 (count88 (ro := ro) (h := J) (l := z.getD q []) (c := UInt8.ofNat (97 + p))), iS, ← hk, cp0 (as56 (ro := ro) (h := J) (k := k) (by omega)), eU, iS, s1, s2, s4', joinL (show L ≤ min l' L by omega) (show L ≤ min p' L by omega), fI', nx (show q ≤ 1000000 by omega)] <;> rfl), J4, _, rfl, ⟨by have := kJ.1; omega, fun i hi => by rw [e4 i (by omega), e3 i (by omega) (fun e => by have := bJ _ e; omega), kJ.2 i hi]⟩, by omega, h4, ?_, (fun b e => by cases e; show B ≤ J.length + 1; omega), fun i g1 g2' => by rw [e4 i (by omega), e3 i (by omega) (fun e => by have := bJ _ e; omega), oJ i g1 g2']⟩
     rw [htk]
     exact g2.by fun b e => by cases e; exact e4 _ (by show J.length + 1 ≠ L; omega)
    ·rintro s ⟨J, u, rfl, kJ, lJ, hJ, gJ, bJ, oJ⟩
     rw [List.take_of_length_le (by rw [hrl p]; exact Nat.le_refl _)] at gJ
     exact ⟨_, (by simp only [g55_b1, fB, ltF (Int.lt_irrefl _), cF] <;> rfl), J, u, rfl, kJ, lJ, hJ, gJ, bJ, oJ⟩
    ·have e : cl.set p .nsl = cl := by
      refine List.ext_getElem? fun i => ?_
      rw [List.getElem?_set]
      split
      ·rename_i e; subst e; rw [if_pos (by omega), c2 p (Nat.le_refl _) hp]
      ·rfl
     rw [e]; exact hK
   obtain ⟨r, l1, J, u, rfl, kJ, lJ, hJ, gJ, bJ, oJ⟩ := inner
   have hru : ∃ b, u = .sl ⟨false, b, 0⟩ n .grow ∧ B ≤ b ∧ b < J.length ∧ Holds J b (row p) := by
    have rl := hrl p
    rcases gJ with ⟨-, e2⟩ | ⟨b, blk, e2, g2, g3, g4, g5, g6, g7⟩
    ·rw [e2] at rl; simp at rl; omega
    ·subst e2
     exact ⟨b, by rw [rl], bJ b rfl, qgk g4, blk, g4, g6, g7⟩
   obtain ⟨b, rfl, b1, b2, b3⟩ := hru
   refine ⟨_, (by simp only [g55_b0, fB, ltT (show (p : Int) < (n : Int) by omega), cT, len_S (S_by a kK), oS, iS, ← hn, qaw, l1, fI', nx (show p ≤ 1000000 by omega)] <;> rfl), J, cl.set p (.sl ⟨false, b, 0⟩ n .grow), rfl, ?_⟩
   rw [hO]
   refine ⟨kJ, by omega, hJ, by simpa using cK, fun r hr => ?_, fun r h1 h2 => ?_, fun r r' b0 h1 h2 h3 h4 => ?_⟩
   ·rw [List.getElem?_set]
    by_cases e : p = r
    ·subst e
     rw [if_pos rfl, if_pos (by omega)]
     exact ⟨b, rfl, by omega, b2, b3⟩
    ·rw [if_neg e]
     obtain ⟨b', e1, e2, e3, e4⟩ := c1 r (by omega)
     exact ⟨b', e1, e2, by omega, e4.keep (oJ b' e2 (by omega))⟩
   ·rw [List.getElem?_set_ne (by omega)]; exact c2 r (by omega) h2
   ·rw [List.getElem?_set] at h3 h4
    by_cases e : p = r
    ·subst e
     rw [if_pos rfl, if_pos (by omega)] at h3
     cases h3
     by_cases e' : p = r'
     ·exact e'
     ·rw [if_neg e'] at h4
      obtain ⟨b', f1, f2, f3, -⟩ := c1 r' (by omega)
      rw [h4] at f1
      cases f1
      omega
    ·rw [if_neg e] at h3
     by_cases e' : p = r'
     ·subst e'
      rw [if_pos rfl, if_pos (by omega)] at h4
      cases h4
      obtain ⟨b', f1, f2, f3, -⟩ := c1 r (by omega)
      rw [h3] at f1
      cases f1
      omega
     ·rw [if_neg e'] at h4
      exact c3 r r' b0 (by omega) (by omega) h3 h4
  ·rintro s ⟨K, cl, rfl, ho⟩
   exact ⟨_, (by simp only [g55_b0, fB, ltF (Int.lt_irrefl _), cF] <;> rfl), K, cl, rfl, ho⟩
  ·rw [hO]
   exact ⟨k0, by omega, ho0, by simp, fun r hr => by omega, fun r _ hr => by simp [hr], fun r r' b hr => by omega⟩
 obtain ⟨r, l1, K, cl, rfl, ho⟩ := key
 rw [hO] at ho
 obtain ⟨kK, lK, hK, cK, c1, -, c3⟩ := ho
 obtain ⟨H, f1, f2, f3⟩ := qft (w := .sl ⟨false, L, 0⟩ n (.known n)) kK
 have hbel : (AVal.sl ⟨false, L, 0⟩ n (.known n)).bel h.length = false := by
  have : Nat.blt L h.length = false := by rw [← Bool.not_eq_true, Nat.blt_eq]; omega
  simp [AVal.bel, this]
 obtain rfl := f3 hbel
 refine ⟨_, _, g55_ok (qav F1 ro) (Ovr.no rfl) (?_ : _ = some (.sl ⟨false, L, 0⟩ n (.known n), H, h.length, h.length)), kK, ?_⟩
 ·unfold g55
  simp only [len_S a, oS, iS, ← hn, ← hL, hm, pS, qaw, l1, tA]
  rw [← hL] at f1
  exact f1
 ·have hxl : (mat55 z).length = n := by rw [hn]; simp [mat55]
  have hxr : ∀ r, r < n → ((mat55 z).getD r []).map eU = row r ∧ ((mat55 z).getD r []).length = n := fun r hr => by
   have e : (mat55 z).getD r [] = z.map fun s => cU (s.count (UInt8.ofNat (97 + r))) := by
    have : r < z.length := by omega
    simp [mat55, List.getD, this]
   rw [e, hrow, hn]
   exact ⟨by simp, by simp⟩
  have ch : ∃ bs : Nat → Nat, ∀ r, r < n → cl[r]? = some (.sl ⟨false, bs r, 0⟩ n .grow) ∧ L < bs r ∧ bs r < H.length ∧ Holds H (bs r) (row r) := Go.Deep.choose_lt c1
  obtain ⟨bs, hbs⟩ := ch
  refine ⟨bs, fun _ => .grow, by rw [hxl, hL], ?_, fun r hr => ?_, fun r r' hr hr' e => ?_⟩
  ·have e : ((List.range (mat55 z).length).map fun r => AVal.sl ⟨false, bs r, 0⟩ ((mat55 z).getD r []).length .grow) = cl := by
    refine List.ext_getElem? fun i => ?_
    rw [hxl]
    rcases Nat.lt_or_ge i n with hi | hi
    ·rw [(hbs i hi).1]
     simp only [List.getElem?_map, List.getElem?_range hi, Option.map_some, (hxr i hi).2]
    ·rw [List.getElem?_eq_none (by simp; omega), List.getElem?_eq_none (by omega)]
   rw [e, ← hL]; exact hK
  ·rw [hxl] at hr
   rw [(hxr r hr).1, ← hL]
   exact ⟨(hbs r hr).2.1, (hbs r hr).2.2.2⟩
  ·rw [hxl] at hr hr'
   have e1 := (hbs r hr).1
   have e2 := (hbs r' hr').1
   rw [← e] at e2
   exact c3 r r' _ hr hr' e1 e2
end
end Go.Proofs.Ytfohppnelbbepaa.T
/- matrix I -/
open Go.Vm
set_option linter.unusedVariables false
set_option linter.unusedSectionVars false
namespace Go.Proofs.Ytfohppnelbbepaa.T
open Go
variable [Ovr]
/- matrix, for whole -/
section
variable {ro : List ABlk} {h : Heap}
end
end Go.Proofs.Ytfohppnelbbepaa.T
/- matrix B -/
open Go.Vm
set_option linter.unusedVariables false
set_option linter.unusedSectionVars false
namespace Go.Proofs.Ytfohppnelbbepaa.T
open Go
variable [Ovr]
/- matrix, for path -/
section
variable {ro : List ABlk} {h : Heap}
theorem as94 {k : Nat} (hk : k ≤ 1000000) : callX F1 ro 94 [.i .i64 (k : Int)] h = some (eB (cB k), h, h.length, h.length) := by
 refine g94_ok (qav F1 ro) (Ovr.no rfl) ?_
 unfold g94
 by_cases h0 : 0 < k
 ·simp only [ltT (show (0 : Int) < (k : Int) by omega), fB, tA, cB, dT h0]
  exact qbe rfl
 ·simp only [ltF (show ¬ (0 : Int) < (k : Int) by omega), fB, tA, cB, dF h0]
  exact qbe rfl
def mat93 (z : List (List UInt8)) : List (List Bool) := (List.range z.length).map fun p => z.map fun s => cB (s.count (UInt8.ofNat (97 + p)))
theorem matrix93 {v : AVal} {z : List (List UInt8)} (a : IsS ro h v z) (h1 : 1 ≤ z.length) (h6 : z.length ≤ 6) (h8 : ∀ i, i < z.length → (z.getD i []).length ≤ 8) :
  ∃ w H, callX F1 ro 93 [v, .fn 94 [] []] h = some (w, H, h.length, h.length) ∧ Keep h H ∧ NewM eB H h.length w (mat93 z) := by
 obtain ⟨n, hn⟩ : ∃ n, n = z.length := ⟨_, rfl⟩
 obtain ⟨L, hL⟩ : ∃ L, L = h.length := ⟨_, rfl⟩
 have hm := mk_ok (ro := ro) (hp := h) (e := 124) (es := 1) (bytes := 24) (z := [AVal.nsl]) (n := n) (l := L) (p := L) (by omega) (by omega)
 obtain ⟨H0, hH0⟩ : ∃ H0, H0 = h ++ [some (blkOf 124 (rep [AVal.nsl] n))] := ⟨_, rfl⟩
 rw [← hH0, ← hL] at hm
 have k0 : Keep h H0 := by rw [hH0]; exact Keep.app _
 have l0 : H0.length = L + 1 := by rw [hH0, hL]; simp
 have ho0 : Holds H0 L (List.replicate n .nsl) := by
  have := Holds.new h 124 (rep [AVal.nsl] n)
  rw [← hH0, ← hL, qdr] at this
  exact this
 obtain ⟨row, hrow⟩ : ∃ row : Nat → List AVal, row = fun p => z.map fun s => eB (cB (s.count (UInt8.ofNat (97 + p)))) := ⟨_, rfl⟩
 have hrl : ∀ p, (row p).length = n := fun p => by rw [hrow, hn]; simp
 -- what holds behind p rows
 obtain ⟨O, hO⟩ : ∃ O : Nat → Heap → List AVal → Prop, O = fun p K cl => Keep h K ∧ L < K.length ∧ Holds K L cl ∧ cl.length = n ∧ (∀ r, r < p → ∃ b, cl[r]? = some (.sl ⟨false, b, 0⟩ n .grow) ∧ L < b ∧ b < K.length ∧ Holds K b (row r)) ∧
   (∀ r, p ≤ r → r < n → cl[r]? = some .nsl) ∧ ∀ r r' b, r < p → r' < p → cl[r]? = some (.sl ⟨false, b, 0⟩ n .grow) → cl[r']? = some (.sl ⟨false, b, 0⟩ n .grow) → r = r' := ⟨_, rfl⟩
 have key : ∃ r, loopX (fun s : Int × Mm => g93_b0 (qbs F1 ro) ro v (.fn 94 [] []) (.sl ⟨false, L, 0⟩ n (.known n)) (n : Int) s.1 s.2) (0, ⟨H0, L, L⟩) = some r ∧ ∃ K cl, r = ⟨K, L, L⟩ ∧ O n K cl := by
  refine qbt n (fun p s => ∃ K cl, s = ((p : Int), ⟨K, L, L⟩) ∧ O p K cl) _ ?_ ?_ n 0 _ (by omega) ⟨H0, List.replicate n .nsl, rfl, ?_⟩
  ·rintro p s hp ⟨K, cl, rfl, ho⟩
   rw [hO] at ho
   obtain ⟨kK, lK, hK, cK, c1, c2, c3⟩ := ho
   obtain ⟨B, hB⟩ : ∃ B, B = K.length := ⟨_, rfl⟩
   have inner : ∃ r, loopX (fun s : Int × Mm => g93_b1 (qbs F1 ro) ro v (.fn 94 [] []) (.sl ⟨false, L, 0⟩ n (.known n)) (p : Int) (n : Int) (n : Int) s.1 s.2) (0, ⟨K, L, L⟩) = some r ∧ ∃ J u, r = ⟨J, L, L⟩ ∧ Keep h J ∧ B ≤ J.length ∧ Holds J L (cl.set p u) ∧ RowG J (L + 1) 122 u (row p) ∧ (∀ b, rb u = some b → B ≤ b) ∧ ∀ i, L < i → i < B → J[i]? = K[i]? := by
    refine qbt n (fun q s => ∃ J u, s = ((q : Int), ⟨J, L, L⟩) ∧ Keep h J ∧ B ≤ J.length ∧ Holds J L (cl.set p u) ∧ RowG J (L + 1) 122 u ((row p).take q) ∧ (∀ b, rb u = some b → B ≤ b) ∧ ∀ i, L < i → i < B → J[i]? = K[i]?) _ ?_ ?_ n 0 _ (by omega) ⟨K, .nsl, rfl, kK, by omega, ?_, RowG.nil _ _ _, (fun b e => by cases e), fun _ _ _ => rfl⟩
    ·rintro q s hq ⟨J, u, rfl, kJ, lJ, hJ, gJ, bJ, oJ⟩
     have aJ := S_by a kJ
     obtain ⟨p1, i1, i2⟩ := at_S aJ (show q < z.length by omega)
     obtain ⟨m1, m2⟩ := hJ.ld (ro := ro) (k := p) (w := u) (by simp [cK, hp]) J.length J.length
     have hstr : (z.getD q []).length ≤ 8 := h8 q (by omega)
     obtain ⟨k, hk⟩ : ∃ k, k = (z.getD q []).count (UInt8.ofNat (97 + p)) := ⟨_, rfl⟩
     have hk8 : k ≤ 8 := by rw [hk]; exact Nat.le_trans List.count_le_length hstr
     have rq : (row p)[q]? = some (eB (cB k)) := by
      have hqz : q < z.length := by omega
      rw [hrow, hk]
      simp [hqz, List.getD]
     have rl := hrl p
     obtain ⟨J2, J3, l', p', s1, s2, g2, n2, n3, e3, b3, -⟩ := gJ.push (ro := ro) (l := J.length) (p := J.length) (bytes := 1) (z := (AVal.b false)) (w := eB (cB k)) (by omega) (by rw [List.length_take]; omega) (by omega) rfl rfl
     have hlq : ((row p).take q).length = q := by rw [List.length_take]; omega
     rw [hlq] at s2 g2
     have hLu : rb u ≠ some L := fun e => by
      rcases gJ with ⟨e2, -⟩ | ⟨b, blk, e2, -, e4, -⟩
      ·rw [e2] at e; cases e
      ·rw [e2] at e
       have e5 : b = L := by simpa [rb] using e
       omega
     have hJ3 : Holds J3 L (cl.set p u) := hJ.keep (e3 L (by omega) hLu)
     obtain ⟨J4, s4, h4, n4, e4⟩ := hJ3.put (ro := ro) (k := p) (w := .sl ⟨false, J.length + 1, 0⟩ (q + 1) .grow) (by simp [cK, hp]) rfl rfl
     obtain ⟨b31, b32⟩ := b3 L (by omega) (by omega) (by omega)
     have hnp : nonp [AVal.sl ⟨false, J.length + 1, 0⟩ (q + 1) .grow] = false := rfl
     have s4' := s4 l' p'
     rw [hnp, cond_false] at s4'
     have hst : (cl.set p u).set p (.sl ⟨false, J.length + 1, 0⟩ (q + 1) .grow) = cl.set p (.sl ⟨false, J.length + 1, 0⟩ (q + 1) .grow) := by simp
     rw [hst] at h4
     have htk : (row p).take (q + 1) = (row p).take q ++ [eB (cB k)] := by rw [List.take_succ_eq_append_getElem (by omega)]; congr 1; rw [List.getElem?_eq_getElem (by omega)] at rq; simpa using rq
     refine ⟨_, (by simp only [g93_b1, fB, ltT (show (q : Int) < (n : Int) by omega), cT, i1, oS, (i2 (Keep.refl J)).1, sS, baseL, qdd (show p < n from hp), m2, mC, qgq, List.nil_append, List.append_nil, cp0 (letter89 (ro := ro) (h := J) (show p ≤ 100 by omega)), pS, chkL (Nat.le_refl J.length), ckT, cp0 (count88 (ro := ro) (h := J) (l := z.getD q []) (c := UInt8.ofNat (97 + p))), iS, ← hk, cp0 (as94 (ro := ro) (h := J) (k := k) (by omega)), eB, bS, s1, s2, s4', joinL (show L ≤ min l' L by omega) (show L ≤ min p' L by omega), fI', nx (show q ≤ 1000000 by omega)] <;> rfl), J4, _, rfl, ⟨by have := kJ.1; omega, fun i hi => by rw [e4 i (by omega), e3 i (by omega) (fun e => by have := bJ _ e; omega), kJ.2 i hi]⟩, by omega, h4, ?_, (fun b e => by cases e; show B ≤ J.length + 1; omega), fun i g1 g2' => by rw [e4 i (by omega), e3 i (by omega) (fun e => by have := bJ _ e; omega), oJ i g1 g2']⟩
     rw [htk]
     exact g2.by fun b e => by cases e; exact e4 _ (by show J.length + 1 ≠ L; omega)
    ·rintro s ⟨J, u, rfl, kJ, lJ, hJ, gJ, bJ, oJ⟩
     rw [List.take_of_length_le (by rw [hrl p]; exact Nat.le_refl _)] at gJ
     exact ⟨_, (by simp only [g93_b1, fB, ltF (Int.lt_irrefl _), cF] <;> rfl), J, u, rfl, kJ, lJ, hJ, gJ, bJ, oJ⟩
    ·have e : cl.set p .nsl = cl := by
      refine List.ext_getElem? fun i => ?_
      rw [List.getElem?_set]
      split
      ·rename_i e; subst e; rw [if_pos (by omega), c2 p (Nat.le_refl _) hp]
      ·rfl
     rw [e]; exact hK
   obtain ⟨r, l1, J, u, rfl, kJ, lJ, hJ, gJ, bJ, oJ⟩ := inner
   have hru : ∃ b, u = .sl ⟨false, b, 0⟩ n .grow ∧ B ≤ b ∧ b < J.length ∧ Holds J b (row p) := by
    have rl := hrl p
    rcases gJ with ⟨-, e2⟩ | ⟨b, blk, e2, g2, g3, g4, g5, g6, g7⟩
    ·rw [e2] at rl; simp at rl; omega
    ·subst e2
     exact ⟨b, by rw [rl], bJ b rfl, qgk g4, blk, g4, g6, g7⟩
   obtain ⟨b, rfl, b1, b2, b3⟩ := hru
   refine ⟨_, (by simp only [g93_b0, fB, ltT (show (p : Int) < (n : Int) by omega), cT, len_S (S_by a kK), oS, iS, ← hn, qaw, l1, fI', nx (show p ≤ 1000000 by omega)] <;> rfl), J, cl.set p (.sl ⟨false, b, 0⟩ n .grow), rfl, ?_⟩
   rw [hO]
   refine ⟨kJ, by omega, hJ, by simpa using cK, fun r hr => ?_, fun r h1 h2 => ?_, fun r r' b0 h1 h2 h3 h4 => ?_⟩
   ·rw [List.getElem?_set]
    by_cases e : p = r
    ·subst e
     rw [if_pos rfl, if_pos (by omega)]
     exact ⟨b, rfl, by omega, b2, b3⟩
    ·rw [if_neg e]
     obtain ⟨b', e1, e2, e3, e4⟩ := c1 r (by omega)
     exact ⟨b', e1, e2, by omega, e4.keep (oJ b' e2 (by omega))⟩
   ·rw [List.getElem?_set_ne (by omega)]; exact c2 r (by omega) h2
   ·rw [List.getElem?_set] at h3 h4
    by_cases e : p = r
    ·subst e
     rw [if_pos rfl, if_pos (by omega)] at h3
     cases h3
     by_cases e' : p = r'
     ·exact e'
     ·rw [if_neg e'] at h4
      obtain ⟨b', f1, f2, f3, -⟩ := c1 r' (by omega)
      rw [h4] at f1
      cases f1
      omega
    ·rw [if_neg e] at h3
     by_cases e' : p = r'
     ·subst e'
      rw [if_pos rfl, if_pos (by omega)] at h4
      cases h4
      obtain ⟨b', f1, f2, f3, -⟩ := c1 r (by omega)
      rw [h3] at f1
      cases f1
      omega
     ·rw [if_neg e'] at h4
      exact c3 r r' b0 (by omega) (by omega) h3 h4
  ·rintro s ⟨K, cl, rfl, ho⟩
   exact ⟨_, (by simp only [g93_b0, fB, ltF (Int.lt_irrefl _), cF] <;> rfl), K, cl, rfl, ho⟩
  ·rw [hO]
   exact ⟨k0, by omega, ho0, by simp, fun r hr => by omega, fun r _ hr => by simp [hr], fun r r' b hr => by omega⟩
 obtain ⟨r, l1, K, cl, rfl, ho⟩ := key
 rw [hO] at ho
 obtain ⟨kK, lK, hK, cK, c1, -, c3⟩ := ho
 obtain ⟨H, f1, f2, f3⟩ := qft (w := .sl ⟨false, L, 0⟩ n (.known n)) kK
 have hbel : (AVal.sl ⟨false, L, 0⟩ n (.known n)).bel h.length = false := by
  have : Nat.blt L h.length = false := by rw [← Bool.not_eq_true, Nat.blt_eq]; omega
  simp [AVal.bel, this]
 obtain rfl := f3 hbel
 refine ⟨_, _, g93_ok (qav F1 ro) (Ovr.no rfl) (?_ : _ = some (.sl ⟨false, L, 0⟩ n (.known n), H, h.length, h.length)), kK, ?_⟩
 ·unfold g93
  simp only [len_S a, oS, iS, ← hn, ← hL, hm, pS, qaw, l1, tA]
  rw [← hL] at f1
  exact f1
 ·have hxl : (mat93 z).length = n := by rw [hn]; simp [mat93]
  have hxr : ∀ r, r < n → ((mat93 z).getD r []).map eB = row r ∧ ((mat93 z).getD r []).length = n := fun r hr => by
   have e : (mat93 z).getD r [] = z.map fun s => cB (s.count (UInt8.ofNat (97 + r))) := by
    have : r < z.length := by omega
    simp [mat93, List.getD, this]
   rw [e, hrow, hn]
   exact ⟨by simp, by simp⟩
  have ch : ∃ bs : Nat → Nat, ∀ r, r < n → cl[r]? = some (.sl ⟨false, bs r, 0⟩ n .grow) ∧ L < bs r ∧ bs r < H.length ∧ Holds H (bs r) (row r) := Go.Deep.choose_lt c1
  obtain ⟨bs, hbs⟩ := ch
  refine ⟨bs, fun _ => .grow, by rw [hxl, hL], ?_, fun r hr => ?_, fun r r' hr hr' e => ?_⟩
  ·have e : ((List.range (mat93 z).length).map fun r => AVal.sl ⟨false, bs r, 0⟩ ((mat93 z).getD r []).length .grow) = cl := by
    refine List.ext_getElem? fun i => ?_
    rw [hxl]
    rcases Nat.lt_or_ge i n with hi | hi
    ·rw [(hbs i hi).1]
     simp only [List.getElem?_map, List.getElem?_range hi, Option.map_some, (hxr i hi).2]
    ·rw [List.getElem?_eq_none (by simp; omega), List.getElem?_eq_none (by omega)]
   rw [e, ← hL]; exact hK
  ·rw [hxl] at hr
   rw [(hxr r hr).1, ← hL]
   exact ⟨(hbs r hr).2.1, (hbs r hr).2.2.2⟩
  ·rw [hxl] at hr hr'
   have e1 := (hbs r hr).1
   have e2 := (hbs r' hr').1
   rw [← e] at e2
   exact c3 r r' _ hr hr' e1 e2
end
end Go.Proofs.Ytfohppnelbbepaa.T
/- product U -/
open Go.Vm
set_option linter.unusedVariables false
set_option linter.unusedSectionVars false
namespace Go.Proofs.Ytfohppnelbbepaa.T
open Go
variable [Ovr]
abbrev le63 (n : Nat) : Prop := n ≤ 9223372036854775808
abbrev plU (a b : Nat) : Nat := sat (a + b)
abbrev tmU (a b : Nat) : Nat := sat (a * b)
/- product, for many -/
section
variable {ro : List ABlk} {h : Heap}
def dot57 (row : List Nat) (xb : List (List Nat)) (j : Nat) : Nat → Nat
 | 0 => (0 : Nat)
 | k + 1 => plU (dot57 row xb j k) (tmU (row.getD k (0 : Nat)) ((xb.getD k []).getD j (0 : Nat)))
def qgi (xa xb : List (List Nat)) : List (List Nat) := xa.map fun row => (List.range (xb.getD 0 []).length).map fun j => dot57 row xb j xb.length
theorem tms57 {m : Mm} {call : qao} {v : AVal} {args : List AVal} : qfc call m [(61, (126, [])), (106, (129, [])), (122, (131, []))] (.ifc 61 v) args = callM call m 126 (v :: args) := Eq.trans rfl rfl
theorem pls57 {m : Mm} {call : qao} {v : AVal} {args : List AVal} : qfc call m [(61, (86, [])), (106, (128, [])), (122, (130, []))] (.ifc 61 v) args = callM call m 86 (v :: args) := Eq.trans rfl rfl
theorem dot57_P {xa xb : List (List Nat)} (hP : ∀ z ∈ xa, ∀ x ∈ z, le63 x) (hQ : ∀ z ∈ xb, ∀ x ∈ z, le63 x) {row : List Nat} (hr : row ∈ xa) (j : Nat) : ∀ k, le63 (dot57 row xb j k)
 | 0 => (Nat.zero_le _)
 | k + 1 => by
  have hg : ∀ (l : List Nat) (i : Nat), (∀ x ∈ l, le63 x) → le63 (l.getD i (0 : Nat)) := fun l i hl => by
   rw [List.getD_eq_getElem?_getD]
   cases e : l[i]? with
   | none => exact (Nat.zero_le _)
   | some x => exact hl x (List.mem_of_getElem? e)
  have h1 := hg row k (hP row hr)
  have h2 : le63 ((xb.getD k []).getD j (0 : Nat)) := hg _ _ (by
   rw [List.getD_eq_getElem?_getD]
   cases e : xb[k]? with
   | none => intro x hx; simp at hx
   | some z => exact hQ z (List.mem_of_getElem? e))
  exact (sat_le _)
theorem prod57_ok {v w : AVal} {xa xb : List (List Nat)} (a : IsM eU ro h v xa) (b : IsM eU ro h w xb) (ha : xa.length ≤ 10) (hb1 : 1 ≤ xb.length) (hb : xb.length ≤ 10) (hr : ∀ z ∈ xa, z.length = xb.length) {m : Nat} (hm : m ≤ 10) (hc : ∀ z ∈ xb, z.length = m) (hP : ∀ z ∈ xa, ∀ x ∈ z, le63 x) (hQ : ∀ z ∈ xb, ∀ x ∈ z, le63 x) :
  ∃ u H, callX F1 ro 57 [v, w] h = some (u, H, h.length, h.length) ∧ Keep h H ∧ NewM eU H h.length u (qgi xa xb) := by
 obtain ⟨n, hn⟩ : ∃ n, n = xa.length := ⟨_, rfl⟩
 obtain ⟨N, hN⟩ : ∃ N, N = xb.length := ⟨_, rfl⟩
 obtain ⟨L, hL⟩ : ∃ L, L = h.length := ⟨_, rfl⟩
 have hrow0 : (xb.getD 0 []).length = m := hc _ (by rw [List.getD_eq_getElem?_getD, List.getElem?_eq_getElem (show 0 < xb.length by omega)]; exact List.getElem_mem _)
 have hmk := mk_ok (ro := ro) (hp := h) (e := 63) (es := 1) (bytes := 24) (z := [AVal.nsl]) (n := n) (l := L) (p := L) (by omega) (by omega)
 obtain ⟨H0, hH0⟩ : ∃ H0, H0 = h ++ [some (blkOf 63 (rep [AVal.nsl] n))] := ⟨_, rfl⟩
 rw [← hH0, ← hL] at hmk
 have k0 : Keep h H0 := by rw [hH0]; exact Keep.app _
 have l0 : H0.length = L + 1 := by rw [hH0, hL]; simp
 obtain ⟨cell, hcell⟩ : ∃ cell : Nat → Nat → AVal, cell = fun i r => if r < i then .sl ⟨false, L + 1 + r, 0⟩ m (.known m) else .nsl := ⟨_, rfl⟩
 have ho0 : Holds H0 L ((List.range n).map (cell 0)) := by
  have := Holds.new h 63 (rep [AVal.nsl] n)
  rw [← hH0, ← hL, qdr] at this
  have e : (List.range n).map (cell 0) = List.replicate n .nsl := by
   refine List.ext_getElem? fun i => ?_
   rcases Nat.lt_or_ge i n with hi | hi
   ·simp [hcell, hi]
   ·rw [List.getElem?_eq_none (by simpa using hi), List.getElem?_eq_none (by simpa using hi)]
  rw [e]; exact this
 obtain ⟨res, hres⟩ : ∃ res : Nat → Nat → Nat, res = fun i j => dot57 (xa.getD i []) xb j N := ⟨_, rfl⟩
 obtain ⟨O, hO⟩ : ∃ O : Nat → Heap → Prop, O = fun i K => Keep h K ∧ K.length = L + 1 + i ∧ Holds K L ((List.range n).map (cell i)) ∧ ∀ r, r < i → Holds K (L + 1 + r) ((List.range m).map fun j => eU (res r j)) := ⟨_, rfl⟩
 have key : ∃ r, loopX (fun s : Int × Mm => g57_b0 (qbs F1 ro) ro w (.sl ⟨false, L, 0⟩ n (.known n)) v (n : Int) s.1 s.2) (0, ⟨H0, L, L⟩) = some r ∧ ∃ K, r = ⟨K, L, L⟩ ∧ O n K := by
  refine qbt n (fun i s => ∃ K, s = ((i : Int), ⟨K, L, L⟩) ∧ O i K) _ ?_ ?_ n 0 _ (by omega) ⟨H0, rfl, ?_⟩
  ·rintro i s hi ⟨K, rfl, ho⟩
   rw [hO] at ho
   obtain ⟨kK, lK, hK, rK⟩ := ho
   obtain ⟨row, hrow⟩ : ∃ row, xa[i]? = some row := ⟨_, List.getElem?_eq_getElem (by omega)⟩
   have hrm : row ∈ xa := List.mem_of_getElem? hrow
   have hrg : xa.getD i [] = row := by rw [List.getD_eq_getElem?_getD, hrow]; rfl
   have hrl : row.length = N := by rw [hN]; exact hr row hrm
   obtain ⟨p1, u1, i1, i2, i3⟩ := at_M a hrow
   obtain ⟨p2, u2, j1, j2, j3⟩ := at_M b (show xb[0]? = some (xb.getD 0 []) by rw [List.getD_eq_getElem?_getD, List.getElem?_eq_getElem (show 0 < xb.length by omega)]; rfl)
   have e0 : ((0 : Nat) : Int) = 0 := rfl
   rw [e0] at j1
   have hl2 := len_R j2
   rw [hrow0] at hl2
   have hm2 := mk_ok (ro := ro) (hp := K) (e := 61) (es := 1) (bytes := 8) (z := [(AVal.i IntKind.u64 0)]) (n := m) (l := L) (p := L) (by omega) (by omega)
   obtain ⟨K1, hK1⟩ : ∃ K1, K1 = K ++ [some (blkOf 61 (rep [(AVal.i IntKind.u64 0)] m))] := ⟨_, rfl⟩
   rw [← hK1] at hm2
   have l1 : K1.length = L + 1 + i + 1 := by rw [hK1]; simp [lK]
   have kk1 : Keep K K1 := by rw [hK1]; exact Keep.app _
   have hnew : Holds K1 (L + 1 + i) ((List.range m).map fun _ => (AVal.i IntKind.u64 0)) := by
    have := Holds.new K 61 (rep [(AVal.i IntKind.u64 0)] m)
    rw [← hK1, lK, qdr] at this
    have e : (List.range m).map (fun _ => (AVal.i IntKind.u64 0)) = List.replicate m (AVal.i IntKind.u64 0) := by simp [List.map_const']
    rw [e]; exact this
   obtain ⟨K2, s2, h2, n2, o2⟩ := (hK.by kk1).put (ro := ro) (k := i) (w := .sl ⟨false, K.length, 0⟩ m (.known m)) (by simp [hi]) rfl rfl
   have hnp : nonp [AVal.sl ⟨false, K.length, 0⟩ m (.known m)] = false := rfl
   have s2' := s2 L L
   rw [hnp, cond_false, Nat.min_self] at s2'
   have hcs : ((List.range n).map (cell i)).set i (.sl ⟨false, K.length, 0⟩ m (.known m)) = (List.range n).map (cell (i + 1)) := by
    refine List.ext_getElem? fun t => ?_
    rw [List.getElem?_set]
    rcases Nat.lt_or_ge t n with ht | ht
    ·by_cases e : i = t
     ·subst e
      rw [if_pos rfl]
      simp [hcell, ht, lK]
     ·rw [if_neg e]
      simp only [hcell, List.getElem?_map, List.getElem?_range ht, Option.map_some]
      by_cases e2 : t < i
      ·rw [if_pos e2, if_pos (by omega)]
      ·rw [if_neg e2, if_neg (by omega)]
    ·rw [if_neg (by omega), List.getElem?_eq_none (by simpa using ht), List.getElem?_eq_none (by simpa using ht)]
   rw [hcs] at h2
   have kK2 : Keep h K2 := ⟨by have := kK.1; omega, fun t ht => by rw [o2 t (by omega), kk1.2 t (by have := kK.1; omega), kK.2 t ht]⟩
   have hrow2 : Holds K2 (L + 1 + i) ((List.range m).map fun _ => (AVal.i IntKind.u64 0)) := hnew.keep (o2 _ (by omega))
   have hcell2 : ((List.range n).map (cell (i + 1)))[i]? = some (.sl ⟨false, L + 1 + i, 0⟩ m (.known m)) := by simp [hcell, hi]
   obtain ⟨m1, -⟩ := h2.ld (ro := ro) hcell2 L L
   have loop1 : ∃ r, loopX (fun s : Int × Mm => g57_b1 (qbs F1 ro) ro w (.sl ⟨false, L, 0⟩ n (.known n)) (i : Int) u1 v (n : Int) (m : Int) s.1 s.2) (0, ⟨K2, L, L⟩) = some r ∧ ∃ J, r = ⟨J, L, L⟩ ∧ J.length = K2.length ∧ (∀ t, t ≠ L + 1 + i → J[t]? = K2[t]?) ∧ Holds J (L + 1 + i) ((List.range m).map fun j => eU (if j < m then res i j else (0 : Nat))) := by
    refine qbt m (fun j s => ∃ J, s = ((j : Int), ⟨J, L, L⟩) ∧ J.length = K2.length ∧ (∀ t, t ≠ L + 1 + i → J[t]? = K2[t]?) ∧ Holds J (L + 1 + i) ((List.range m).map fun t => eU (if t < j then res i t else (0 : Nat)))) _ ?_ ?_ m 0 _ (by omega) ⟨K2, rfl, rfl, fun _ _ => rfl, ?_⟩
    ·rintro j s hj ⟨J, rfl, lJ, oJ, hJ⟩
     have loop2 : ∃ r, loopX (fun s : Int × Mm => g57_b2 (qbs F1 ro) ro w (.sl ⟨false, L, 0⟩ n (.known n)) (i : Int) u1 (j : Int) v (n : Int) (m : Int) (N : Int) s.1 s.2) (0, ⟨J, L, L⟩) = some r ∧ ∃ Q, r = ⟨Q, L, L⟩ ∧ Q.length = K2.length ∧ (∀ t, t ≠ L + 1 + i → Q[t]? = K2[t]?) ∧ Holds Q (L + 1 + i) ((List.range m).map fun t => eU (if t < j then res i t else if t = j then dot57 row xb j N else (0 : Nat))) := by
      refine qbt N (fun k s => ∃ Q, s = ((k : Int), ⟨Q, L, L⟩) ∧ Q.length = K2.length ∧ (∀ t, t ≠ L + 1 + i → Q[t]? = K2[t]?) ∧ Holds Q (L + 1 + i) ((List.range m).map fun t => eU (if t < j then res i t else if t = j then dot57 row xb j k else (0 : Nat)))) _ ?_ ?_ N 0 _ (by omega) ⟨J, rfl, lJ, oJ, ?_⟩
      ·rintro k s hk ⟨Q, rfl, lQ, oQ, hQ'⟩
       have kQ : Keep h Q := ⟨by have := kK2.1; omega, fun t ht => by rw [oQ t (by omega), kK2.2 t ht]⟩
       have hQL : Holds Q L ((List.range n).map (cell (i + 1))) := h2.keep (oQ L (by omega))
       obtain ⟨x, hx⟩ : ∃ x, row[k]? = some x := ⟨_, List.getElem?_eq_getElem (by omega)⟩
       have hxg : row.getD k (0 : Nat) = x := by rw [List.getD_eq_getElem?_getD, hx]; rfl
       obtain ⟨q1, a1, a2⟩ := at_R i2 hx
       obtain ⟨zb, hzb⟩ : ∃ zb, xb[k]? = some zb := ⟨_, List.getElem?_eq_getElem (by omega)⟩
       have hzm : zb ∈ xb := List.mem_of_getElem? hzb
       have hzl := hc zb hzm
       have hzg : xb.getD k [] = zb := by rw [List.getD_eq_getElem?_getD, hzb]; rfl
       obtain ⟨q2, u3, b1, b2, b3⟩ := at_M b hzb
       obtain ⟨y, hy⟩ : ∃ y, zb[j]? = some y := ⟨_, List.getElem?_eq_getElem (by omega)⟩
       have hyg : zb.getD j (0 : Nat) = y := by rw [List.getD_eq_getElem?_getD, hy]; rfl
       obtain ⟨q3, c1, c2⟩ := at_R b2 hy
       obtain ⟨-, d1⟩ := hQL.ld (ro := ro) hcell2 Q.length Q.length
       obtain ⟨-, d2⟩ := hQ'.ld (ro := ro) (k := j) (w := eU (dot57 row xb j k)) (by simp [hj]) Q.length Q.length
       have px : le63 x := hP row hrm x (List.mem_of_getElem? hx)
       have py : le63 y := hQ zb hzm y (List.mem_of_getElem? hy)
       have pd : le63 (dot57 row xb j k) := dot57_P hP hQ hrm j k
       obtain ⟨Q2, t2, g2, w2, z2⟩ := hQ'.put (ro := ro) (k := j) (w := eU (dot57 row xb j (k + 1))) (by simp [hj]) rfl rfl
       have hnp2 : nonp [eU (dot57 row xb j (k + 1))] = true := rfl
       have t2' := t2 Q.length Q.length
       rw [hnp2, cond_true] at t2'
       have hdot : dot57 row xb j (k + 1) = plU (dot57 row xb j k) (tmU x y) := by rw [← hxg, ← hyg, ← hzg]; rfl
       have hset : ((List.range m).map fun t => eU (if t < j then res i t else if t = j then dot57 row xb j k else (0 : Nat))).set j (eU (dot57 row xb j (k + 1))) = (List.range m).map fun t => eU (if t < j then res i t else if t = j then dot57 row xb j (k + 1) else (0 : Nat)) := by
        refine List.ext_getElem? fun t => ?_
        rw [List.getElem?_set]
        rcases Nat.lt_or_ge t m with ht | ht
        ·by_cases e : j = t
         ·subst e
          rw [if_pos rfl]
          simp [ht]
         ·rw [if_neg e]
          simp only [List.getElem?_map, List.getElem?_range ht, Option.map_some, if_neg (show ¬ t = j from fun e2 => e e2.symm)]
        ·rw [if_neg (by omega), List.getElem?_eq_none (by simpa using ht), List.getElem?_eq_none (by simpa using ht)]
       rw [hset] at g2
       rw [hdot] at t2'
       have hT := times126 (ro := ro) (h := Q) (x := x) (y := y) px py
       have hA := plus86 (ro := ro) (h := Q) (x := dot57 row xb j k) (y := tmU x y) pd (sat_le _)
       refine ⟨_, (by simp only [g57_b2, fB, ltT (show (k : Int) < (N : Int) by omega), cT, a1, oS, (a2 kQ).1, eU, iS, baseL, qdd (show i < n from hi), d1, qdd (show j < m from hj), d2, b1, (b3 kQ).1, c1, (c2 kQ).1, tms57, pls57, mC, cp0 hT, pS, chkL (Nat.le_refl Q.length), ckT, cp0 hA, t2', joinL (show L ≤ min Q.length (L + 1 + i) by omega) (show L ≤ Q.length by omega), fI', nx (show k ≤ 1000000 by omega)] <;> rfl), Q2, rfl, by omega, fun t ht => by rw [z2 t ht, oQ t ht], g2⟩
      ·rintro s ⟨Q, rfl, lQ, oQ, hQ'⟩
       exact ⟨_, (by simp only [g57_b2, fB, ltF (Int.lt_irrefl _), cF] <;> rfl), Q, rfl, lQ, oQ, hQ'⟩
      ·have e : ((List.range m).map fun t => eU (if t < j then res i t else if t = j then dot57 row xb j 0 else (0 : Nat))) = (List.range m).map fun t => eU (if t < j then res i t else (0 : Nat)) := by
        refine List.map_congr_left fun t _ => ?_
        by_cases e1 : t < j
        ·rw [if_pos e1, if_pos e1]
        ·rw [if_neg e1, if_neg e1]
         split <;> rfl
       rw [e]; exact hJ
     obtain ⟨r2, q2, Q, rfl, lQ, oQ, hQ'⟩ := loop2
     refine ⟨_, (by simp only [g57_b1, fB, ltT (show (j : Int) < (m : Int) by omega), cT, len_R i2, hrl, oS, iS, qaw, q2, fI', nx (show j ≤ 1000000 by omega)] <;> rfl), Q, rfl, lQ, oQ, ?_⟩
     have e : ((List.range m).map fun t => eU (if t < j then res i t else if t = j then dot57 row xb j N else (0 : Nat))) = (List.range m).map fun t => eU (if t < j + 1 then res i t else (0 : Nat)) := by
      refine List.map_congr_left fun t _ => ?_
      by_cases e1 : t < j
      ·rw [if_pos e1, if_pos (by omega)]
      ·by_cases e2 : t = j
       ·subst e2
        rw [if_neg e1, if_pos rfl, if_pos (by omega), hres]
        simp only [hrg]
       ·rw [if_neg e1, if_neg e2, if_neg (by omega)]
     rw [← e]; exact hQ'
    ·rintro s ⟨J, rfl, lJ, oJ, hJ⟩
     exact ⟨_, (by simp only [g57_b1, fB, ltF (Int.lt_irrefl _), cF] <;> rfl), J, rfl, lJ, oJ, hJ⟩
    ·have e : ((List.range m).map fun t => eU (if t < 0 then res i t else (0 : Nat))) = (List.range m).map fun _ => (AVal.i IntKind.u64 0) := List.map_congr_left fun t _ => (by rw [if_neg (by omega)] <;> rfl)
     rw [e]; exact hrow2
   obtain ⟨r1, q1, J, rfl, lJ, oJ, hJ⟩ := loop1
   refine ⟨_, (by simp only [g57_b0, fB, ltT (show (i : Int) < (n : Int) by omega), cT, i1, oS, (i3 kK).1, j1, (j3 kK).1, hl2, iS, hm2, pS, qdd (show i < n from hi), s2', m1, qha, qaw, q1, fI', nx (show i ≤ 1000000 by omega)] <;> rfl), J, rfl, ?_⟩
   rw [hO]
   refine ⟨⟨by have := kK2.1; omega, fun t ht => by rw [oJ t (by omega), kK2.2 t ht]⟩, by omega, h2.keep (oJ L (by omega)), fun r hr' => ?_⟩
   by_cases e : r = i
   ·subst e
    have e : ((List.range m).map fun j => eU (if j < m then res r j else (0 : Nat))) = (List.range m).map fun j => eU (res r j) := List.map_congr_left fun t ht => by rw [if_pos (List.mem_range.1 ht)]
    rw [← e]; exact hJ
   ·have := rK r (by omega)
    exact this.keep (by rw [oJ _ (by omega), o2 _ (by omega), kk1.2 _ (by omega)])
  ·rintro s ⟨K, rfl, ho⟩
   exact ⟨_, (by simp only [g57_b0, fB, ltF (Int.lt_irrefl _), cF] <;> rfl), K, rfl, ho⟩
  ·rw [hO]
   exact ⟨k0, by omega, ho0, fun r hr => by omega⟩
 obtain ⟨r, l1, K, rfl, ho⟩ := key
 rw [hO] at ho
 obtain ⟨kK, lK, hK, rK⟩ := ho
 obtain ⟨H, f1, f2, f3⟩ := qft (w := .sl ⟨false, L, 0⟩ n (.known n)) kK
 have hbel : (AVal.sl ⟨false, L, 0⟩ n (.known n)).bel h.length = false := by
  have : Nat.blt L h.length = false := by rw [← Bool.not_eq_true, Nat.blt_eq]; omega
  simp [AVal.bel, this]
 obtain rfl := f3 hbel
 refine ⟨_, _, g57_ok (qav F1 ro) (Ovr.no rfl) (?_ : _ = some (.sl ⟨false, L, 0⟩ n (.known n), H, h.length, h.length)), kK, ?_⟩
 ·unfold g57
  simp only [len_M a, oS, iS, ← hn, ← hL, hmk, pS, qaw, l1, tA]
  rw [← hL] at f1
  exact f1
 ·have hxl : (qgi xa xb).length = n := by rw [hn]; simp [qgi]
  have hxr : ∀ r, r < n → (qgi xa xb).getD r [] = (List.range m).map fun j => res r j := fun r hr => by
   have : r < xa.length := by omega
   simp [qgi, List.getD, this, hres, ← hN]
   try (rw [← List.getD_eq_getElem?_getD, hrow0])
  refine ⟨fun r => L + 1 + r, fun _ => .known m, by rw [hxl, hL], ?_, fun r hr => ?_, fun r r' hr hr' e => by have e2 : L + 1 + r = L + 1 + r' := e; omega⟩
  ·have e : ((List.range (qgi xa xb).length).map fun r => AVal.sl ⟨false, L + 1 + r, 0⟩ ((qgi xa xb).getD r []).length (.known m)) = (List.range n).map (cell n) := by
    rw [hxl]
    refine List.map_congr_left fun r hr => ?_
    have hr' := List.mem_range.1 hr
    rw [hxr r hr', hcell]
    simp [hr']
   rw [e, ← hL]; exact hK
  ·rw [hxl] at hr
   rw [hxr r hr, ← hL]
   refine ⟨by show L < L + 1 + r; omega, ?_⟩
   have := rK r hr
   rw [List.map_map]
   exact this
end
end Go.Proofs.Ytfohppnelbbepaa.T
/- product I -/
open Go.Vm
set_option linter.unusedVariables false
set_option linter.unusedSectionVars false
namespace Go.Proofs.Ytfohppnelbbepaa.T
open Go
variable [Ovr]
abbrev tr {α : Type} (_ : α) : Prop := True
section
variable {ro : List ABlk} {h : Heap}
end
/- product, for whole -/
section
variable {ro : List ABlk} {h : Heap}
end
end Go.Proofs.Ytfohppnelbbepaa.T
/- product B -/
open Go.Vm
set_option linter.unusedVariables false
set_option linter.unusedSectionVars false
namespace Go.Proofs.Ytfohppnelbbepaa.T
open Go
variable [Ovr]
abbrev plB (a b : Bool) : Bool := a || b
abbrev tmB (a b : Bool) : Bool := a && b
section
variable {ro : List ABlk} {h : Heap}
theorem plus130 {x y : Bool} (_ : tr x) (_ : tr y) : callX F1 ro 130 [.b x, .b y] h = some (.b (plB x y), h, h.length, h.length) := by
 refine g130_ok (qav F1 ro) (Ovr.no rfl) ?_
 unfold g130
 cases x <;> simp only [cT, cF, oS, tA, plB, Bool.true_or, Bool.false_or] <;> exact qbe rfl
theorem times131 {x y : Bool} (_ : tr x) (_ : tr y) : callX F1 ro 131 [.b x, .b y] h = some (.b (tmB x y), h, h.length, h.length) := by
 refine g131_ok (qav F1 ro) (Ovr.no rfl) ?_
 unfold g131
 cases x <;> simp only [cT, cF, oS, tA, tmB, Bool.true_and, Bool.false_and] <;> exact qbe rfl
end
/- product, for path -/
section
variable {ro : List ABlk} {h : Heap}
def dot95 (row : List Bool) (xb : List (List Bool)) (j : Nat) : Nat → Bool
 | 0 => false
 | k + 1 => plB (dot95 row xb j k) (tmB (row.getD k false) ((xb.getD k []).getD j false))
def qgc (xa xb : List (List Bool)) : List (List Bool) := xa.map fun row => (List.range (xb.getD 0 []).length).map fun j => dot95 row xb j xb.length
theorem tms95 {m : Mm} {call : qao} {v : AVal} {args : List AVal} : qfc call m [(61, (126, [])), (106, (129, [])), (122, (131, []))] (.ifc 122 v) args = callM call m 131 (v :: args) := Eq.trans rfl rfl
theorem pls95 {m : Mm} {call : qao} {v : AVal} {args : List AVal} : qfc call m [(61, (86, [])), (106, (128, [])), (122, (130, []))] (.ifc 122 v) args = callM call m 130 (v :: args) := Eq.trans rfl rfl
theorem dot95_P {xa xb : List (List Bool)} (hP : ∀ z ∈ xa, ∀ x ∈ z, tr x) (hQ : ∀ z ∈ xb, ∀ x ∈ z, tr x) {row : List Bool} (hr : row ∈ xa) (j : Nat) : ∀ k, tr (dot95 row xb j k)
 | 0 => trivial
 | k + 1 => by
  have hg : ∀ (l : List Bool) (i : Nat), (∀ x ∈ l, tr x) → tr (l.getD i false) := fun l i hl => by
   rw [List.getD_eq_getElem?_getD]
   cases e : l[i]? with
   | none => exact trivial
   | some x => exact hl x (List.mem_of_getElem? e)
  have h1 := hg row k (hP row hr)
  have h2 : tr ((xb.getD k []).getD j false) := hg _ _ (by
   rw [List.getD_eq_getElem?_getD]
   cases e : xb[k]? with
   | none => intro x hx; simp at hx
   | some z => exact hQ z (List.mem_of_getElem? e))
  exact trivial
theorem prod95_ok {v w : AVal} {xa xb : List (List Bool)} (a : IsM eB ro h v xa) (b : IsM eB ro h w xb) (ha : xa.length ≤ 10) (hb1 : 1 ≤ xb.length) (hb : xb.length ≤ 10) (hr : ∀ z ∈ xa, z.length = xb.length) {m : Nat} (hm : m ≤ 10) (hc : ∀ z ∈ xb, z.length = m) (hP : ∀ z ∈ xa, ∀ x ∈ z, tr x) (hQ : ∀ z ∈ xb, ∀ x ∈ z, tr x) :
  ∃ u H, callX F1 ro 95 [v, w] h = some (u, H, h.length, h.length) ∧ Keep h H ∧ NewM eB H h.length u (qgc xa xb) := by
 obtain ⟨n, hn⟩ : ∃ n, n = xa.length := ⟨_, rfl⟩
 obtain ⟨N, hN⟩ : ∃ N, N = xb.length := ⟨_, rfl⟩
 obtain ⟨L, hL⟩ : ∃ L, L = h.length := ⟨_, rfl⟩
 have hrow0 : (xb.getD 0 []).length = m := hc _ (by rw [List.getD_eq_getElem?_getD, List.getElem?_eq_getElem (show 0 < xb.length by omega)]; exact List.getElem_mem _)
 have hmk := mk_ok (ro := ro) (hp := h) (e := 124) (es := 1) (bytes := 24) (z := [AVal.nsl]) (n := n) (l := L) (p := L) (by omega) (by omega)
 obtain ⟨H0, hH0⟩ : ∃ H0, H0 = h ++ [some (blkOf 124 (rep [AVal.nsl] n))] := ⟨_, rfl⟩
 rw [← hH0, ← hL] at hmk
 have k0 : Keep h H0 := by rw [hH0]; exact Keep.app _
 have l0 : H0.length = L + 1 := by rw [hH0, hL]; simp
 obtain ⟨cell, hcell⟩ : ∃ cell : Nat → Nat → AVal, cell = fun i r => if r < i then .sl ⟨false, L + 1 + r, 0⟩ m (.known m) else .nsl := ⟨_, rfl⟩
 have ho0 : Holds H0 L ((List.range n).map (cell 0)) := by
  have := Holds.new h 124 (rep [AVal.nsl] n)
  rw [← hH0, ← hL, qdr] at this
  have e : (List.range n).map (cell 0) = List.replicate n .nsl := by
   refine List.ext_getElem? fun i => ?_
   rcases Nat.lt_or_ge i n with hi | hi
   ·simp [hcell, hi]
   ·rw [List.getElem?_eq_none (by simpa using hi), List.getElem?_eq_none (by simpa using hi)]
  rw [e]; exact this
 obtain ⟨res, hres⟩ : ∃ res : Nat → Nat → Bool, res = fun i j => dot95 (xa.getD i []) xb j N := ⟨_, rfl⟩
 obtain ⟨O, hO⟩ : ∃ O : Nat → Heap → Prop, O = fun i K => Keep h K ∧ K.length = L + 1 + i ∧ Holds K L ((List.range n).map (cell i)) ∧ ∀ r, r < i → Holds K (L + 1 + r) ((List.range m).map fun j => eB (res r j)) := ⟨_, rfl⟩
 have key : ∃ r, loopX (fun s : Int × Mm => g95_b0 (qbs F1 ro) ro w (.sl ⟨false, L, 0⟩ n (.known n)) v (n : Int) s.1 s.2) (0, ⟨H0, L, L⟩) = some r ∧ ∃ K, r = ⟨K, L, L⟩ ∧ O n K := by
  refine qbt n (fun i s => ∃ K, s = ((i : Int), ⟨K, L, L⟩) ∧ O i K) _ ?_ ?_ n 0 _ (by omega) ⟨H0, rfl, ?_⟩
  ·rintro i s hi ⟨K, rfl, ho⟩
   rw [hO] at ho
   obtain ⟨kK, lK, hK, rK⟩ := ho
   obtain ⟨row, hrow⟩ : ∃ row, xa[i]? = some row := ⟨_, List.getElem?_eq_getElem (by omega)⟩
   have hrm : row ∈ xa := List.mem_of_getElem? hrow
   have hrg : xa.getD i [] = row := by rw [List.getD_eq_getElem?_getD, hrow]; rfl
   have hrl : row.length = N := by rw [hN]; exact hr row hrm
   obtain ⟨p1, u1, i1, i2, i3⟩ := at_M a hrow
   obtain ⟨p2, u2, j1, j2, j3⟩ := at_M b (show xb[0]? = some (xb.getD 0 []) by rw [List.getD_eq_getElem?_getD, List.getElem?_eq_getElem (show 0 < xb.length by omega)]; rfl)
   have e0 : ((0 : Nat) : Int) = 0 := rfl
   rw [e0] at j1
   have hl2 := len_R j2
   rw [hrow0] at hl2
   have hm2 := mk_ok (ro := ro) (hp := K) (e := 122) (es := 1) (bytes := 1) (z := [(AVal.b false)]) (n := m) (l := L) (p := L) (by omega) (by omega)
   obtain ⟨K1, hK1⟩ : ∃ K1, K1 = K ++ [some (blkOf 122 (rep [(AVal.b false)] m))] := ⟨_, rfl⟩
   rw [← hK1] at hm2
   have l1 : K1.length = L + 1 + i + 1 := by rw [hK1]; simp [lK]
   have kk1 : Keep K K1 := by rw [hK1]; exact Keep.app _
   have hnew : Holds K1 (L + 1 + i) ((List.range m).map fun _ => (AVal.b false)) := by
    have := Holds.new K 122 (rep [(AVal.b false)] m)
    rw [← hK1, lK, qdr] at this
    have e : (List.range m).map (fun _ => (AVal.b false)) = List.replicate m (AVal.b false) := by simp [List.map_const']
    rw [e]; exact this
   obtain ⟨K2, s2, h2, n2, o2⟩ := (hK.by kk1).put (ro := ro) (k := i) (w := .sl ⟨false, K.length, 0⟩ m (.known m)) (by simp [hi]) rfl rfl
   have hnp : nonp [AVal.sl ⟨false, K.length, 0⟩ m (.known m)] = false := rfl
   have s2' := s2 L L
   rw [hnp, cond_false, Nat.min_self] at s2'
   have hcs : ((List.range n).map (cell i)).set i (.sl ⟨false, K.length, 0⟩ m (.known m)) = (List.range n).map (cell (i + 1)) := by
    refine List.ext_getElem? fun t => ?_
    rw [List.getElem?_set]
    rcases Nat.lt_or_ge t n with ht | ht
    ·by_cases e : i = t
     ·subst e
      rw [if_pos rfl]
      simp [hcell, ht, lK]
     ·rw [if_neg e]
      simp only [hcell, List.getElem?_map, List.getElem?_range ht, Option.map_some]
      by_cases e2 : t < i
      ·rw [if_pos e2, if_pos (by omega)]
      ·rw [if_neg e2, if_neg (by omega)]
    ·rw [if_neg (by omega), List.getElem?_eq_none (by simpa using ht), List.getElem?_eq_none (by simpa using ht)]
   rw [hcs] at h2
   have kK2 : Keep h K2 := ⟨by have := kK.1; omega, fun t ht => by rw [o2 t (by omega), kk1.2 t (by have := kK.1; omega), kK.2 t ht]⟩
   have hrow2 : Holds K2 (L + 1 + i) ((List.range m).map fun _ => (AVal.b false)) := hnew.keep (o2 _ (by omega))
   have hcell2 : ((List.range n).map (cell (i + 1)))[i]? = some (.sl ⟨false, L + 1 + i, 0⟩ m (.known m)) := by simp [hcell, hi]
   obtain ⟨m1, -⟩ := h2.ld (ro := ro) hcell2 L L
   have loop1 : ∃ r, loopX (fun s : Int × Mm => g95_b1 (qbs F1 ro) ro w (.sl ⟨false, L, 0⟩ n (.known n)) (i : Int) u1 v (n : Int) (m : Int) s.1 s.2) (0, ⟨K2, L, L⟩) = some r ∧ ∃ J, r = ⟨J, L, L⟩ ∧ J.length = K2.length ∧ (∀ t, t ≠ L + 1 + i → J[t]? = K2[t]?) ∧ Holds J (L + 1 + i) ((List.range m).map fun j => eB (if j < m then res i j else false)) := by
    refine qbt m (fun j s => ∃ J, s = ((j : Int), ⟨J, L, L⟩) ∧ J.length = K2.length ∧ (∀ t, t ≠ L + 1 + i → J[t]? = K2[t]?) ∧ Holds J (L + 1 + i) ((List.range m).map fun t => eB (if t < j then res i t else false))) _ ?_ ?_ m 0 _ (by omega) ⟨K2, rfl, rfl, fun _ _ => rfl, ?_⟩
    ·rintro j s hj ⟨J, rfl, lJ, oJ, hJ⟩
     have loop2 : ∃ r, loopX (fun s : Int × Mm => g95_b2 (qbs F1 ro) ro w (.sl ⟨false, L, 0⟩ n (.known n)) (i : Int) u1 (j : Int) v (n : Int) (m : Int) (N : Int) s.1 s.2) (0, ⟨J, L, L⟩) = some r ∧ ∃ Q, r = ⟨Q, L, L⟩ ∧ Q.length = K2.length ∧ (∀ t, t ≠ L + 1 + i → Q[t]? = K2[t]?) ∧ Holds Q (L + 1 + i) ((List.range m).map fun t => eB (if t < j then res i t else if t = j then dot95 row xb j N else false)) := by
      refine qbt N (fun k s => ∃ Q, s = ((k : Int), ⟨Q, L, L⟩) ∧ Q.length = K2.length ∧ (∀ t, t ≠ L + 1 + i → Q[t]? = K2[t]?) ∧ Holds Q (L + 1 + i) ((List.range m).map fun t => eB (if t < j then res i t else if t = j then dot95 row xb j k else false))) _ ?_ ?_ N 0 _ (by omega) ⟨J, rfl, lJ, oJ, ?_⟩
      ·rintro k s hk ⟨Q, rfl, lQ, oQ, hQ'⟩
       have kQ : Keep h Q := ⟨by have := kK2.1; omega, fun t ht => by rw [oQ t (by omega), kK2.2 t ht]⟩
       have hQL : Holds Q L ((List.range n).map (cell (i + 1))) := h2.keep (oQ L (by omega))
       obtain ⟨x, hx⟩ : ∃ x, row[k]? = some x := ⟨_, List.getElem?_eq_getElem (by omega)⟩
       have hxg : row.getD k false = x := by rw [List.getD_eq_getElem?_getD, hx]; rfl
       obtain ⟨q1, a1, a2⟩ := at_R i2 hx
       obtain ⟨zb, hzb⟩ : ∃ zb, xb[k]? = some zb := ⟨_, List.getElem?_eq_getElem (by omega)⟩
       have hzm : zb ∈ xb := List.mem_of_getElem? hzb
       have hzl := hc zb hzm
       have hzg : xb.getD k [] = zb := by rw [List.getD_eq_getElem?_getD, hzb]; rfl
       obtain ⟨q2, u3, b1, b2, b3⟩ := at_M b hzb
       obtain ⟨y, hy⟩ : ∃ y, zb[j]? = some y := ⟨_, List.getElem?_eq_getElem (by omega)⟩
       have hyg : zb.getD j false = y := by rw [List.getD_eq_getElem?_getD, hy]; rfl
       obtain ⟨q3, c1, c2⟩ := at_R b2 hy
       obtain ⟨-, d1⟩ := hQL.ld (ro := ro) hcell2 Q.length Q.length
       obtain ⟨-, d2⟩ := hQ'.ld (ro := ro) (k := j) (w := eB (dot95 row xb j k)) (by simp [hj]) Q.length Q.length
       have px : tr x := hP row hrm x (List.mem_of_getElem? hx)
       have py : tr y := hQ zb hzm y (List.mem_of_getElem? hy)
       have pd : tr (dot95 row xb j k) := dot95_P hP hQ hrm j k
       obtain ⟨Q2, t2, g2, w2, z2⟩ := hQ'.put (ro := ro) (k := j) (w := eB (dot95 row xb j (k + 1))) (by simp [hj]) rfl rfl
       have hnp2 : nonp [eB (dot95 row xb j (k + 1))] = true := rfl
       have t2' := t2 Q.length Q.length
       rw [hnp2, cond_true] at t2'
       have hdot : dot95 row xb j (k + 1) = plB (dot95 row xb j k) (tmB x y) := by rw [← hxg, ← hyg, ← hzg]; rfl
       have hset : ((List.range m).map fun t => eB (if t < j then res i t else if t = j then dot95 row xb j k else false)).set j (eB (dot95 row xb j (k + 1))) = (List.range m).map fun t => eB (if t < j then res i t else if t = j then dot95 row xb j (k + 1) else false) := by
        refine List.ext_getElem? fun t => ?_
        rw [List.getElem?_set]
        rcases Nat.lt_or_ge t m with ht | ht
        ·by_cases e : j = t
         ·subst e
          rw [if_pos rfl]
          simp [ht]
         ·rw [if_neg e]
          simp only [List.getElem?_map, List.getElem?_range ht, Option.map_some, if_neg (show ¬ t = j from fun e2 => e e2.symm)]
        ·rw [if_neg (by omega), List.getElem?_eq_none (by simpa using ht), List.getElem?_eq_none (by simpa using ht)]
       rw [hset] at g2
       rw [hdot] at t2'
       have hT := times131 (ro := ro) (h := Q) (x := x) (y := y) px py
       have hA := plus130 (ro := ro) (h := Q) (x := dot95 row xb j k) (y := tmB x y) pd trivial
       refine ⟨_, (by simp only [g95_b2, fB, ltT (show (k : Int) < (N : Int) by omega), cT, a1, oS, (a2 kQ).1, eB, bS, baseL, qdd (show i < n from hi), d1, qdd (show j < m from hj), d2, b1, (b3 kQ).1, c1, (c2 kQ).1, tms95, pls95, mC, cp0 hT, pS, chkL (Nat.le_refl Q.length), ckT, cp0 hA, t2', joinL (show L ≤ min Q.length (L + 1 + i) by omega) (show L ≤ Q.length by omega), fI', nx (show k ≤ 1000000 by omega)] <;> rfl), Q2, rfl, by omega, fun t ht => by rw [z2 t ht, oQ t ht], g2⟩
      ·rintro s ⟨Q, rfl, lQ, oQ, hQ'⟩
       exact ⟨_, (by simp only [g95_b2, fB, ltF (Int.lt_irrefl _), cF] <;> rfl), Q, rfl, lQ, oQ, hQ'⟩
      ·have e : ((List.range m).map fun t => eB (if t < j then res i t else if t = j then dot95 row xb j 0 else false)) = (List.range m).map fun t => eB (if t < j then res i t else false) := by
        refine List.map_congr_left fun t _ => ?_
        by_cases e1 : t < j
        ·rw [if_pos e1, if_pos e1]
        ·rw [if_neg e1, if_neg e1]
         split <;> rfl
       rw [e]; exact hJ
     obtain ⟨r2, q2, Q, rfl, lQ, oQ, hQ'⟩ := loop2
     refine ⟨_, (by simp only [g95_b1, fB, ltT (show (j : Int) < (m : Int) by omega), cT, len_R i2, hrl, oS, iS, qaw, q2, fI', nx (show j ≤ 1000000 by omega)] <;> rfl), Q, rfl, lQ, oQ, ?_⟩
     have e : ((List.range m).map fun t => eB (if t < j then res i t else if t = j then dot95 row xb j N else false)) = (List.range m).map fun t => eB (if t < j + 1 then res i t else false) := by
      refine List.map_congr_left fun t _ => ?_
      by_cases e1 : t < j
      ·rw [if_pos e1, if_pos (by omega)]
      ·by_cases e2 : t = j
       ·subst e2
        rw [if_neg e1, if_pos rfl, if_pos (by omega), hres]
        simp only [hrg]
       ·rw [if_neg e1, if_neg e2, if_neg (by omega)]
     rw [← e]; exact hQ'
    ·rintro s ⟨J, rfl, lJ, oJ, hJ⟩
     exact ⟨_, (by simp only [g95_b1, fB, ltF (Int.lt_irrefl _), cF] <;> rfl), J, rfl, lJ, oJ, hJ⟩
    ·have e : ((List.range m).map fun t => eB (if t < 0 then res i t else false)) = (List.range m).map fun _ => (AVal.b false) := List.map_congr_left fun t _ => (by rw [if_neg (by omega)] <;> rfl)
     rw [e]; exact hrow2
   obtain ⟨r1, q1, J, rfl, lJ, oJ, hJ⟩ := loop1
   refine ⟨_, (by simp only [g95_b0, fB, ltT (show (i : Int) < (n : Int) by omega), cT, i1, oS, (i3 kK).1, j1, (j3 kK).1, hl2, iS, hm2, pS, qdd (show i < n from hi), s2', m1, qha, qaw, q1, fI', nx (show i ≤ 1000000 by omega)] <;> rfl), J, rfl, ?_⟩
   rw [hO]
   refine ⟨⟨by have := kK2.1; omega, fun t ht => by rw [oJ t (by omega), kK2.2 t ht]⟩, by omega, h2.keep (oJ L (by omega)), fun r hr' => ?_⟩
   by_cases e : r = i
   ·subst e
    have e : ((List.range m).map fun j => eB (if j < m then res r j else false)) = (List.range m).map fun j => eB (res r j) := List.map_congr_left fun t ht => by rw [if_pos (List.mem_range.1 ht)]
    rw [← e]; exact hJ
   ·have := rK r (by omega)
    exact this.keep (by rw [oJ _ (by omega), o2 _ (by omega), kk1.2 _ (by omega)])
  ·rintro s ⟨K, rfl, ho⟩
   exact ⟨_, (by simp only [g95_b0, fB, ltF (Int.lt_irrefl _), cF] <;> rfl), K, rfl, ho⟩
  ·rw [hO]
   exact ⟨k0, by omega, ho0, fun r hr => by omega⟩
 obtain ⟨r, l1, K, rfl, ho⟩ := key
 rw [hO] at ho
 obtain ⟨kK, lK, hK, rK⟩ := ho
 obtain ⟨H, f1, f2, f3⟩ := qft (w := .sl ⟨false, L, 0⟩ n (.known n)) kK
 have hbel : (AVal.sl ⟨false, L, 0⟩ n (.known n)).bel h.length = false := by
  have : Nat.blt L h.length = false := by rw [← Bool.not_eq_true, Nat.blt_eq]; omega
  simp [AVal.bel, this]
 obtain rfl := f3 hbel
 refine ⟨_, _, g95_ok (qav F1 ro) (Ovr.no rfl) (?_ : _ = some (.sl ⟨false, L, 0⟩ n (.known n), H, h.length, h.length)), kK, ?_⟩
 ·unfold g95
  simp only [len_M a, oS, iS, ← hn, ← hL, hmk, pS, qaw, l1, tA]
  rw [← hL] at f1
  exact f1
 ·have hxl : (qgc xa xb).length = n := by rw [hn]; simp [qgc]
  have hxr : ∀ r, r < n → (qgc xa xb).getD r [] = (List.range m).map fun j => res r j := fun r hr => by
   have : r < xa.length := by omega
   simp [qgc, List.getD, this, hres, ← hN]
   try (rw [← List.getD_eq_getElem?_getD, hrow0])
  refine ⟨fun r => L + 1 + r, fun _ => .known m, by rw [hxl, hL], ?_, fun r hr => ?_, fun r r' hr hr' e => by have e2 : L + 1 + r = L + 1 + r' := e; omega⟩
  ·have e : ((List.range (qgc xa xb).length).map fun r => AVal.sl ⟨false, L + 1 + r, 0⟩ ((qgc xa xb).getD r []).length (.known m)) = (List.range n).map (cell n) := by
    rw [hxl]
    refine List.map_congr_left fun r hr => ?_
    have hr' := List.mem_range.1 hr
    rw [hxr r hr', hcell]
    simp [hr']
   rw [e, ← hL]; exact hK
  ·rw [hxl] at hr
   rw [hxr r hr, ← hL]
   refine ⟨by show L < L + 1 + r; omega, ?_⟩
   have := rK r hr
   rw [List.map_map]
   exact this
end
end Go.Proofs.Ytfohppnelbbepaa.T
/- How many letters there are -/
open Go.Vm
set_option linter.unusedVariables false
set_option linter.unusedSectionVars false
namespace Go.Proofs.Ytfohppnelbbepaa.T
open Go
variable [Ovr]
def sumT (f : Nat → Nat) : Nat → Nat
 | 0 => 0
 | k + 1 => sumT f k + f k
theorem qeq {f g : Nat → Nat} : ∀ {n : Nat}, (∀ t, t < n → f t = g t) → sumT f n = sumT g n
 | 0, _ => rfl
 | n + 1, h => by
  show sumT f n + f n = sumT g n + g n
  rw [qeq fun t ht => h t (by omega), h n (by omega)]
theorem sumT_add (f g : Nat → Nat) : ∀ n, sumT (fun t => f t + g t) n = sumT f n + sumT g n
 | 0 => rfl
 | n + 1 => by
  show sumT (fun t => f t + g t) n + (f n + g n) = sumT f n + f n + (sumT g n + g n)
  rw [sumT_add f g n]; omega
theorem qho : ∀ n, sumT (fun _ => 0) n = 0
 | 0 => rfl
 | n + 1 => by show sumT (fun _ => 0) n + 0 = 0; rw [qho n]
theorem sumT_one {f : Nat → Nat} {k : Nat} : ∀ {n : Nat}, k < n → sumT (fun t => if t = k then f t else 0) n = f k
 | 0, h => by omega
 | n + 1, h => by
  show sumT (fun t => if t = k then f t else 0) n + (if n = k then f n else 0) = f k
  by_cases e : n = k
  ·subst e
   rw [if_pos rfl, qeq (g := fun _ => 0) fun t ht => if_neg (by omega), qho, Nat.zero_add]
  ·rw [if_neg e, sumT_one (by omega)]; rfl
theorem qcd {n : Nat} {s : List UInt8} : has n s ↔ ∀ b ∈ s, isL n b := by
 constructor
 ·intro h b hb
  obtain ⟨i, hi, rfl⟩ := List.getElem_of_mem hb
  have := h i hi
  simpa [List.getD, hi] using this
 ·intro h i hi
  have : s.getD i 0 = s[i] := by simp [List.getD, hi]
  rw [this]; exact h _ (List.getElem_mem hi)
theorem ix_lt {n : Nat} {b : UInt8} (h : isL n b) : ix b < n := by unfold ix; have := h.1; have := h.2; omega
def lt (p : Nat) : UInt8 := UInt8.ofNat (97 + p)
theorem ix_lt' {p : Nat} (hp : p ≤ 100) : ix (lt p) = p := ix_ofNat hp
theorem lt_ix {n : Nat} {b : UInt8} (h : isL n b) (hn : n ≤ 100) : lt (ix b) = b := by
 have h1 := h.1
 have h2 := h.2
 have e : 97 + (b.toNat - 97) = b.toNat := by omega
 unfold lt ix
 rw [e]; exact UInt8.ofNat_toNat
theorem isL_lt {n p : Nat} (hp : p < n) (hn : n ≤ 100) : isL n (lt p) := by
 unfold isL lt
 rw [UInt8.toNat_ofNat']
 omega
def sumS (f : Nat → Nat) : List UInt8 → Nat
 | [] => 0
 | b :: s => f (ix b) + sumS f s
theorem sumS_app (f : Nat → Nat) : ∀ s t, sumS f (s ++ t) = sumS f s + sumS f t
 | [], t => by simp [sumS]
 | b :: s, t => by
  show f (ix b) + sumS f (s ++ t) = f (ix b) + sumS f s + sumS f t
  rw [sumS_app f s t]; omega
theorem count_sum {f : Nat → Nat} {n : Nat} (hn : n ≤ 100) : ∀ {s : List UInt8}, (∀ b ∈ s, isL n b) → sumT (fun t => f t * s.count (lt t)) n = sumS f s
 | [], _ => by
  have : (fun t => f t * ([] : List UInt8).count (lt t)) = fun _ => 0 := by funext t; simp
  rw [this, qho]; rfl
 | b :: s, h => by
  have hb := h b (by simp)
  have e : ∀ t, t < n → f t * (b :: s).count (lt t) = (if t = ix b then f t else 0) + f t * s.count (lt t) := fun t ht => by
   rw [List.count_cons]
   by_cases e : t = ix b
   ·rw [if_pos e, e, lt_ix hb hn]
    simp [Nat.mul_add]; omega
   ·have : (b == lt t) = false := by
     rw [beq_eq_false_iff_ne]
     intro e2
     apply e
     rw [e2, ix_lt' (by omega)]
    rw [this]
    simp [e]
  rw [qeq e, sumT_add, sumT_one (ix_lt hb), count_sum hn fun c hc => h c (by simp [hc])]
  rfl
def cnt (z : List (List UInt8)) : Nat → Nat → Nat
 | 0, _ => 1
 | y + 1, p => sumS (cnt z y) (z.getD p [])
def lenS (z : List (List UInt8)) (y : Nat) (s : List UInt8) : Nat := sumS (cnt z y) s
def rowN (z : List (List UInt8)) (y : Nat) : List Nat := (List.range z.length).map fun p => sat (cnt z y p)
theorem qjt (z : List (List UInt8)) (y : Nat) : (rowN z y).length = z.length := by simp [rowN]
theorem rowN_get (z : List (List UInt8)) (y : Nat) {p : Nat} (hp : p < z.length) : (rowN z y)[p]? = some (sat (cnt z y p)) := by simp [rowN, hp]
theorem rowN_le (z : List (List UInt8)) (y : Nat) : ∀ x ∈ rowN z y, le63 x := fun x hx => by
 obtain ⟨p, -, rfl⟩ := List.mem_map.1 hx
 exact sat_le _
theorem qku (z : List (List UInt8)) {p : Nat} (hp : p < z.length) : (mat55 z).getD p [] = z.map fun s => s.count (lt p) := by
 simp [mat55, List.getD, hp, lt]
theorem qec (z : List (List UInt8)) : (mat55 z).length = z.length := by simp [mat55]
theorem mat55_mem {z r : List (List UInt8)} {x : List Nat} (h : x ∈ mat55 z) : x.length = z.length := by
 obtain ⟨p, -, rfl⟩ := List.mem_map.1 h
 simp
theorem mat55_le {z : List (List UInt8)} (h8 : ∀ i, i < z.length → (z.getD i []).length ≤ 8) {r : List Nat} (hr : r ∈ mat55 z) : ∀ x ∈ r, le63 x := fun x hx => by
 obtain ⟨p, -, rfl⟩ := List.mem_map.1 hr
 obtain ⟨s, hs, rfl⟩ := List.mem_map.1 hx
 obtain ⟨i, hi, rfl⟩ := List.getElem_of_mem hs
 have h1 := h8 i hi
 have e : z.getD i [] = z[i] := by simp [List.getD, hi]
 rw [e] at h1
 have h2 : (z[i]).count (UInt8.ofNat (97 + p)) ≤ (z[i]).length := List.count_le_length
 show (z[i]).count (UInt8.ofNat (97 + p)) ≤ _
 omega
theorem dot_row {z : List (List UInt8)} (hz : z.length ≤ 100) {y j : Nat} (hj : j < z.length) : ∀ k, k ≤ z.length → dot57 (rowN z y) (mat55 z) j k = sat (sumT (fun t => cnt z y t * (z.getD j []).count (lt t)) k)
 | 0, _ => rfl
 | k + 1, hk => by
  have e1 : (rowN z y).getD k 0 = sat (cnt z y k) := by rw [List.getD_eq_getElem?_getD, rowN_get z y (by omega)]; rfl
  have e2 : ((mat55 z).getD k []).getD j 0 = (z.getD j []).count (lt k) := by
   rw [qku z (by omega)]
   simp [List.getD, hj]
  show sat (dot57 (rowN z y) (mat55 z) j k + sat ((rowN z y).getD k 0 * ((mat55 z).getD k []).getD j 0)) = _
  rw [dot_row hz hj k (by omega), e1, e2, sat_mul, qkj]
  rfl
theorem prod_row {z : List (List UInt8)} (h1 : 1 ≤ z.length) (hz : z.length ≤ 100) (hh : ∀ i, i < z.length → has z.length (z.getD i [])) (y : Nat) : qgi [rowN z y] (mat55 z) = [rowN z (y + 1)] := by
 have e0 : ((mat55 z).getD 0 []).length = z.length := by rw [qku z (by omega)]; simp
 unfold qgi
 simp only [List.map_cons, List.map_nil, e0, qec, rowN]
 congr 1
 refine List.map_congr_left fun j hj => ?_
 have hj' := List.mem_range.1 hj
 have := dot_row hz (y := y) hj' z.length (Nat.le_refl _)
 unfold rowN at this
 rw [this, count_sum hz (qcd.1 (hh j hj'))]
 rfl
end Go.Proofs.Ytfohppnelbbepaa.T
/- lengths -/
open Go.Vm
set_option linter.unusedVariables false
set_option linter.unusedSectionVars false
namespace Go.Proofs.Ytfohppnelbbepaa.T
open Go
variable [Ovr]
section
variable {ro : List ABlk} {h hp : Heap} {α : Type} {enc : α → AVal}
def RowF (hp : Heap) (L e : Nat) (v : AVal) (vs : List AVal) : Prop :=
 RowG hp L e v vs ∨ ∃ b, v = .sl ⟨false, b, 0⟩ vs.length (.known vs.length) ∧ L ≤ b ∧ Holds hp b vs
theorem RowF.push {L e bytes l p : Nat} {z : AVal} {v w : AVal} {vs : List AVal} (g : RowF hp L e v vs) (hL : L ≤ hp.length) (hk : vs.length ≤ 200000) (hb : bytes ≤ 1000) (hw : w.cells = [w]) (ho : w.one = true) :
  ∃ hp2 hp3 l' p', stepM ro ⟨hp, l, p⟩ (.bsl e 1 [z] 1 [((0, 1), .c w)]) = some (.sl ⟨false, hp.length, 0⟩ 1 (.known 1), ⟨hp2, l, p⟩) ∧
   stepM ro ⟨hp2, l, p⟩ (.app e 1 bytes [z] (.c v) (.c (.sl ⟨false, hp.length, 0⟩ 1 (.known 1)))) = some (.sl ⟨false, hp.length + 1, 0⟩ (vs.length + 1) .grow, ⟨hp3, l', p'⟩) ∧
   RowG hp3 L e (.sl ⟨false, hp.length + 1, 0⟩ (vs.length + 1) .grow) (vs ++ [w]) ∧ hp2.length = hp.length + 1 ∧ hp3.length = hp.length + 2 ∧ (∀ i, i < hp.length → rb v ≠ some i → hp3[i]? = hp[i]?) ∧ (∀ a, a ≤ L → a ≤ l → a ≤ p → a ≤ l' ∧ a ≤ p') ∧ l' ≤ l ∧ p' ≤ p := by
 rcases g with g | ⟨b, rfl, hLb, a⟩
 ·exact g.push hL hk hb hw ho
 have s1 : stepM ro ⟨hp, l, p⟩ (.bsl e 1 [z] 1 [((0, 1), .c w)]) = some (.sl ⟨false, hp.length, 0⟩ 1 (.known 1), ⟨hp ++ [some (blkOf e [w])], l, p⟩) := by
  simp [stepM, stepK, qjb, rep, fillA, opd, hw, splice, newB, St.mm]
 have hbq : rdB ro (hp ++ [some (blkOf e [w])]) ⟨false, hp.length, 0⟩ = some (blkOf e [w]) := by simp [rdB, qbk]
 have hg : (blkOf e [w]).c.row 0 1 = [w] := qgg 1 0 [w] rfl fun j hj => by rw [Nat.zero_add, qdu]
 have src : qeo ro (hp ++ [some (blkOf e [w])]) 1 (.sl ⟨false, hp.length, 0⟩ 1 (.known 1)) = some ([w], 1) := by
  have hble : Nat.ble (0 + 1 * 1) (blkOf e [w]).n = true := rfl
  simp only [qeo, hbq, hble, cond_true, Nat.mul_one, hg]
 obtain ⟨hp2, e2⟩ : ∃ hp2, hp2 = hp ++ [some (blkOf e [w])] := ⟨_, rfl⟩
 rw [← e2] at src s1
 have hlen2 : hp2.length = hp.length + 1 := by rw [e2]; simp
 have a2 : Holds hp2 b vs := by rw [e2]; exact a.ext _
 obtain ⟨blk, b1, b2, b3⟩ := a2
 have hrow : blk.c.row 0 (vs.length * 1) = vs := qgg (vs.length * 1) 0 vs (by omega) fun j hj => by rw [Nat.zero_add]; exact b3 _ (by omega)
 refine ⟨hp2, hp2 ++ [some (blkOf e (vs ++ [w]))], l, p, s1, ?_, .inr ⟨hp.length + 1, blkOf e (vs ++ [w]), by simp, by simp, by omega, ?_, rfl, rfl, fun j hj => qdu _ _ _⟩, hlen2, by simp [hlen2], fun i hi _ => ?_, fun a _ h2 h3 => ⟨h2, h3⟩, Nat.le_refl _, Nat.le_refl _⟩
 ·have h1 : Nat.ble (vs.length + 1) vs.length = false := by rw [← Bool.not_eq_true, Nat.ble_eq]; omega
  have h2 : (Nat.ble (0 + vs.length * 1) blk.n && fits (vs.length + 1) bytes) = true := by
   rw [qez (by omega : vs.length + 1 ≤ 1000000) hb]
   simp [Nat.ble_eq]; omega
  have h3 : rdB ro hp2 ⟨false, b, 0⟩ = some blk := qdi b1 0
  simp only [stepM, stepK, opd, qgb, src, qfe, h1, cond_false, h3, h2, cond_true, newB, St.mm, hrow, hlen2]
 ·have := qed hp2 (some (blkOf e (vs ++ [w])))
  rwa [hlen2] at this
 ·rw [e2, List.append_assoc, List.getElem?_append_left hi]
theorem bsl1 {e l p : Nat} {z w : AVal} (hw : w.cells = [w]) : stepM ro ⟨hp, l, p⟩ (.bsl e 1 [z] 1 [((0, 1), .c w)]) = some (.sl ⟨false, hp.length, 0⟩ 1 (.known 1), ⟨hp ++ [some (blkOf e [w])], l, p⟩) := by
 simp [stepM, stepK, qjb, rep, fillA, opd, hw, splice, newB, St.mm]
theorem rowsM {x : List (List α)} {b : Nat} {c : Cap} {cl : List AVal} (a : Holds hp b cl) (hl : cl.length = x.length) (hr : ∀ (i : Nat) (z : List α), x[i]? = some z → ∃ u, cl[i]? = some u ∧ IsR enc ro hp u z) : IsM enc ro hp (.sl ⟨false, b, 0⟩ x.length c) x := by
 obtain ⟨blk, h1, h2, h3⟩ := a
 refine .inr ⟨_, c, blk, rfl, qdi h1 0, by show 0 + x.length ≤ blk.n; omega, fun j z hj => ?_⟩
 have hlt : j < x.length := (List.getElem?_eq_some_iff.1 hj).1
 obtain ⟨u, k1, k2⟩ := hr j z hj
 rw [Nat.zero_add, h3 j (by omega), List.getD_eq_getElem?_getD, k1]
 exact k2
structure VOk (z : List (List UInt8)) : Prop where
 h1 : 1 ≤ z.length
 h6 : z.length ≤ 6
 h8 : ∀ i, i < z.length → (z.getD i []).length ≤ 8
 hh : ∀ i, i < z.length → has z.length (z.getD i [])
theorem VOk.of {z : List (List UInt8)} (h : errV z = 0) : VOk z := by
 obtain ⟨h1, h2, h3⟩ := errV_ok h
 exact ⟨h1, h2, fun i hi => (h3 i hi).1, fun i hi => (h3 i hi).2⟩
def CapOk (w : AVal) (n : Nat) : Prop := ∀ q m c, w = .sl q m (.known c) → n ≤ c
set_option maxHeartbeats 1000000 in
theorem lengths48x {v : AVal} {z : List (List UInt8)} (a : IsS ro h v z) (hz : VOk z) {y : Nat} (hy : y ≤ 1000) :
  ∃ w H, callX F1 ro 48 [v, .i .i64 (y : Int)] h = some (w, H, h.length, h.length) ∧ Keep h H ∧ (∀ H', (∀ i, h.length ≤ i → i < H.length → H'[i]? = H[i]?) → IsM eU ro H' w ((List.range (y + 1)).map (rowN z))) ∧ CapOk w (y + 1) := by
 obtain ⟨n, hn⟩ : ∃ n, n = z.length := ⟨_, rfl⟩
 have n1 := hz.h1
 have n6 := hz.h6
 obtain ⟨L, hL⟩ : ∃ L, L = h.length := ⟨_, rfl⟩
 obtain ⟨w1, H1, c1, k1, m1⟩ := matrix55 (ro := ro) a hz.h1 hz.h6 hz.h8
 have M1 : IsM eU ro H1 w1 (mat55 z) := m1.isM
 have hm := mk_ok (ro := ro) (hp := H1) (e := 61) (es := 1) (bytes := 8) (z := [AVal.i IntKind.u64 0]) (n := n) (l := L) (p := L) (by omega) (by omega)
 obtain ⟨H2, hH2⟩ : ∃ H2, H2 = H1 ++ [some (blkOf 61 (rep [AVal.i IntKind.u64 0] n))] := ⟨_, rfl⟩
 rw [← hH2] at hm
 have k2 : Keep H1 H2 := by rw [hH2]; exact Keep.app _
 have l2 : H2.length = H1.length + 1 := by rw [hH2]; simp
 have hLH : L ≤ H1.length := by rw [hL]; exact k1.1
 have ho2 : Holds H2 H1.length ((List.range n).map fun j => eU (if j < 0 then 1 else 0)) := by
  have := Holds.new H1 61 (rep [AVal.i IntKind.u64 0] n)
  rw [← hH2, qdr] at this
  have e : ((List.range n).map fun j => eU (if j < 0 then 1 else 0)) = List.replicate n (AVal.i IntKind.u64 0) := by
   refine List.ext_getElem? fun i => ?_
   rcases Nat.lt_or_ge i n with hi | hi
   ·simp [hi]
   ·rw [List.getElem?_eq_none (by simpa using hi), List.getElem?_eq_none (by simpa using hi)]
  rw [e]; exact this
 -- the row of ones
 have key1 : ∃ r, loopX (fun s : Int × Mm => g48_b0 (qbs F1 ro) ro (y : Int) w1 (.sl ⟨false, H1.length, 0⟩ n (.known n)) (n : Int) s.1 s.2) (0, ⟨H2, L, L⟩) = some r ∧ ∃ K, r = ⟨K, L, L⟩ ∧ K.length = H2.length ∧ (∀ i, i ≠ H1.length → K[i]? = H2[i]?) ∧ Holds K H1.length ((List.range n).map fun j => eU (if j < n then 1 else 0)) := by
  refine qbt n (fun j s => ∃ K, s = ((j : Int), ⟨K, L, L⟩) ∧ K.length = H2.length ∧ (∀ i, i ≠ H1.length → K[i]? = H2[i]?) ∧ Holds K H1.length ((List.range n).map fun t => eU (if t < j then 1 else 0))) _ ?_ ?_ n 0 _ (by omega) ⟨H2, rfl, rfl, fun _ _ => rfl, ho2⟩
  ·rintro j s hj ⟨K, rfl, lK, oK, hK⟩
   obtain ⟨K', s1, g1, n1', o1⟩ := hK.put (ro := ro) (k := j) (w := eU 1) (by simp [hj]) rfl rfl
   have s1' := s1 L L
   rw [show nonp [eU 1] = true from rfl, cond_true, Nat.min_eq_left hLH] at s1'
   have hset : ((List.range n).map fun t => eU (if t < j then 1 else 0)).set j (eU 1) = (List.range n).map fun t => eU (if t < j + 1 then 1 else 0) := by
    refine List.ext_getElem? fun t => ?_
    rw [List.getElem?_set]
    rcases Nat.lt_or_ge t n with ht | ht
    ·by_cases e : j = t
     ·subst e; rw [if_pos rfl]; simp [ht]
     ·rw [if_neg e]
      simp only [List.getElem?_map, List.getElem?_range ht, Option.map_some]
      by_cases e1 : t < j
      ·rw [if_pos e1, if_pos (by omega)]
      ·rw [if_neg e1, if_neg (by omega)]
    ·rw [if_neg (by omega), List.getElem?_eq_none (by simpa using ht), List.getElem?_eq_none (by simpa using ht)]
   rw [hset] at g1
   have s1'' : stepM ro ⟨K, L, L⟩ (.st 1 (.c (.p (some ⟨false, H1.length, 0 + j⟩))) (.c (.i .u64 1))) = some (und, ⟨K', L, L⟩) := s1'
   exact ⟨_, (by simp only [g48_b0, fB, ltT (show (j : Int) < (n : Int) by omega), cT, qdd (show j < n from hj), oS, s1'', pS, fI', nx (show j ≤ 1000000 by omega)] <;> rfl), K', rfl, by omega, fun i hi => by rw [o1 i hi, oK i hi], g1⟩
  ·rintro s ⟨K, rfl, lK, oK, hK⟩
   exact ⟨_, (by simp only [g48_b0, fB, ltF (Int.lt_irrefl _), cF] <;> rfl), K, rfl, lK, oK, hK⟩
 obtain ⟨r1, q1, K3, rfl, l3, o3, h3⟩ := key1
 have k3 : Keep H1 K3 := ⟨by omega, fun i hi => by rw [o3 i (by omega), k2.2 i hi]⟩
 have hrow0 : ((List.range n).map fun j => eU (if j < n then 1 else 0)) = (rowN z 0).map eU := by
  rw [hn]
  unfold rowN
  rw [List.map_map]
  refine List.map_congr_left fun j hj => ?_
  rw [if_pos (List.mem_range.1 hj)]
  rfl
 rw [hrow0] at h3
 -- the list of it alone
 have hb4 := bsl1 (ro := ro) (hp := K3) (e := 63) (l := L) (p := L) (z := AVal.nsl) (w := .sl ⟨false, H1.length, 0⟩ n (.known n)) rfl
 obtain ⟨K4, hK4⟩ : ∃ K4, K4 = K3 ++ [some (blkOf 63 [AVal.sl ⟨false, H1.length, 0⟩ n (.known n)])] := ⟨_, rfl⟩
 rw [← hK4] at hb4
 have l4 : K4.length = K3.length + 1 := by rw [hK4]; simp
 have k34 : Keep K3 K4 := by rw [hK4]; exact Keep.app _
 have k4 : Keep H1 K4 := k3.trans k34
 -- year by year
 obtain ⟨I, hI⟩ : ∃ I : Nat → (AVal × AVal × Int × Mm) → Prop, I = fun (i : Nat) (s : AVal × AVal × Int × Mm) => ∃ (v6 v8 : AVal) (J : Heap) (cl : List AVal), s = (v6, v8, (i : Int), ⟨J, L, L⟩) ∧ Keep H1 J ∧ cl.length = i + 1 ∧ RowF J H1.length 63 v8 cl ∧ cl[i]? = some v6 ∧
   ∀ t : Nat, t ≤ i → ∃ b c, cl[t]? = some (.sl ⟨false, b, 0⟩ n c) ∧ H1.length ≤ b ∧ b < J.length ∧ Holds J b ((rowN z t).map eU) ∧ rb v8 ≠ some b := ⟨_, rfl⟩
 have key2 : ∃ r, loopX (fun s : AVal × AVal × Int × Mm => g48_b1 (qbs F1 ro) ro w1 (y : Int) s.1 s.2.1 s.2.2.1 s.2.2.2) (.sl ⟨false, H1.length, 0⟩ n (.known n), .sl ⟨false, K3.length, 0⟩ 1 (.known 1), 0, ⟨K4, L, L⟩) = some r ∧ ∃ (v8 : AVal) (J : Heap) (cl : List AVal), r = (v8, ⟨J, L, L⟩) ∧ Keep H1 J ∧ cl.length = y + 1 ∧ RowF J H1.length 63 v8 cl ∧ ∀ t : Nat, t ≤ y → ∃ b c, cl[t]? = some (.sl ⟨false, b, 0⟩ n c) ∧ H1.length ≤ b ∧ b < J.length ∧ Holds J b ((rowN z t).map eU) ∧ rb v8 ≠ some b := by
  refine qbt y I _ ?_ ?_ y 0 _ (by omega) ?_
  ·intro i s hi hs
   rw [hI] at hs
   obtain ⟨v6, v8, J, cl, rfl, kJ, lcl, fJ, e6, hcl⟩ := hs
   have hlJ := kJ.1
   obtain ⟨b6, c6, e6', g6, g6', h6, r6⟩ := hcl i (Nat.le_refl _)
   rw [e6] at e6'
   cases e6'
   have hb5 := bsl1 (ro := ro) (hp := J) (e := 63) (l := L) (p := L) (z := AVal.nsl) (w := .sl ⟨false, b6, 0⟩ n c6) rfl
   obtain ⟨J1, hJ1⟩ : ∃ J1, J1 = J ++ [some (blkOf 63 [AVal.sl ⟨false, b6, 0⟩ n c6])] := ⟨_, rfl⟩
   rw [← hJ1] at hb5
   have lJ1 : J1.length = J.length + 1 := by rw [hJ1]; simp
   have kJ1 : Keep J J1 := by rw [hJ1]; exact Keep.app _
   have A1 : IsM eU ro J1 (.sl ⟨false, J.length, 0⟩ 1 (.known 1)) [rowN z i] := by
    have hh : Holds J1 J.length [AVal.sl ⟨false, b6, 0⟩ n c6] := by rw [hJ1]; exact Holds.new _ _ _
    refine rowsM (x := [rowN z i]) hh rfl fun t x ht => ?_
    cases t with
    | zero =>
     cases ht
     exact ⟨_, rfl, (h6.by kJ1).R _ (by rw [qjt, hn])⟩
    | succ t => simp at ht
   have B1 : IsM eU ro J1 w1 (mat55 z) := M_by M1 (kJ.trans kJ1)
   obtain ⟨u, J2, cc, kJ2, N2⟩ := prod57_ok (ro := ro) A1 B1 (by simp) (by rw [qec]; omega) (by rw [qec]; omega) (by intro x hx; simp at hx; subst hx; rw [qjt, qec]) (m := n) (by omega) (fun x hx => by rw [hn]; exact mat55_mem (r := z) hx) (fun x hx => by simp at hx; subst hx; exact rowN_le z i) (fun x hx => mat55_le hz.h8 hx)
   rw [prod_row hz.h1 (by omega) hz.hh] at N2
   obtain ⟨bs, cs, rfl, hL2, hr2, -⟩ := N2
   simp only [List.length_cons, List.length_nil, Nat.zero_add, List.range_one, List.map_cons, List.map_nil, List.getD_cons_zero, qjt] at hL2
   obtain ⟨hr3, hr4⟩ := hr2 0 (by simp)
   simp only [List.getD_cons_zero] at hr4
   rw [← hn] at hL2
   obtain ⟨d1, -⟩ := hL2.ld (ro := ro) (k := 0) rfl L L
   have hlJ2 := kJ2.1
   have fJ2 : RowF J2 H1.length 63 v8 cl := by
    rcases fJ with g | ⟨b, e1, e2, e3⟩
    ·exact .inl (g.keep (kJ1.trans kJ2))
    ·exact .inr ⟨b, e1, e2, e3.by (kJ1.trans kJ2)⟩
   obtain ⟨J3, J4, l', p', s1, s2, g4, n3, n4, o4, b4, b5, b6'⟩ := fJ2.push (ro := ro) (l := L) (p := L) (bytes := 24) (z := AVal.nsl) (w := .sl ⟨false, bs 0, 0⟩ n (cs 0)) (by omega) (by omega) (by omega) rfl rfl
   obtain ⟨b41, b42⟩ := b4 L hLH (Nat.le_refl _) (Nat.le_refl _)
   have hl' : l' = L ∧ p' = L := by omega
   rw [hl'.1, hl'.2] at s2
   rw [lcl] at s2 g4
   have ix0 : evP .e (.ixS 1 (.c (.sl ⟨false, J1.length, 0⟩ [rowN z (i + 1)].length (.known [rowN z (i + 1)].length))) (.c (.i .i64 0))) = some (.p (some ⟨false, J1.length, 0 + 0⟩)) := qdd (i := 0) (by simp)
   have hbs : bs 0 < J2.length := hr4.lt
   have hv8 : ∀ b, rb v8 = some b → b < J.length := fun b e => by
    rcases fJ with g | ⟨b', e1, e2, e3⟩
    ·exact (g.holds e).1.lt
    ·rw [e1] at e; cases e; exact e3.lt
   refine ⟨_, (by simp only [g48_b1, fB, ltT (show (i : Int) < (y : Int) by omega), cT, hb5, pS, mC, cM cc (show L ≤ J1.length by omega) (show L ≤ J1.length by omega), ix0, oS, d1, s1, s2, fI', nx (show i ≤ 1000000 by omega)] <;> rfl), ?_⟩
   rw [hI]
   refine ⟨_, _, J4, cl ++ [.sl ⟨false, bs 0, 0⟩ n (cs 0)], rfl, ⟨by omega, fun t ht => ?_⟩, by simp [lcl], .inl g4, by rw [List.getElem?_append_right (by omega)]; simp [lcl], fun t ht => ?_⟩
   ·have hne : rb v8 ≠ some t := fun e => by
     rcases fJ with g | ⟨b', e1, e2, e3⟩
     ·have := (g.holds e).2.1; omega
     ·rw [e1] at e
      have e5 : b' = t := by simpa [rb] using e
      omega
    rw [o4 t (by omega) hne, kJ2.2 t (by omega), kJ1.2 t (by omega), kJ.2 t ht]
   ·by_cases e : t = i + 1
    ·subst e
     refine ⟨bs 0, cs 0, by rw [List.getElem?_append_right (by omega)]; simp [lcl], by omega, by omega, hr4.keep (o4 _ hbs fun e => by have := hv8 _ e; omega), fun e => ?_⟩
     have e5 : J2.length + 1 = bs 0 := by simpa [rb] using e
     omega
    ·obtain ⟨b, c, f1, f2, f3, f4, f5⟩ := hcl t (by omega)
     refine ⟨b, c, by rw [List.getElem?_append_left (by omega)]; exact f1, f2, by omega, f4.keep ?_, fun e => ?_⟩
     ·rw [o4 b (by omega) f5, kJ2.2 b (by omega), kJ1.2 b (by omega)]
     ·have e5 : J2.length + 1 = b := by simpa [rb] using e
      omega
  ·intro s hs
   rw [hI] at hs
   obtain ⟨v6, v8, J, cl, rfl, kJ, lcl, fJ, -, hcl⟩ := hs
   exact ⟨_, (by simp only [g48_b1, fB, ltF (Int.lt_irrefl _), cF] <;> rfl), v8, J, cl, rfl, kJ, lcl, fJ, hcl⟩
  ·rw [hI]
   refine ⟨_, _, K4, [.sl ⟨false, H1.length, 0⟩ n (.known n)], rfl, k4, rfl, .inr ⟨K3.length, rfl, by omega, by rw [hK4]; exact Holds.new _ _ _⟩, rfl, fun t ht => ?_⟩
   obtain rfl : t = 0 := by omega
   refine ⟨H1.length, .known n, rfl, Nat.le_refl _, by omega, h3.by k34, fun e => ?_⟩
   have e5 : K3.length = H1.length := by simpa [rb] using e
   omega
 obtain ⟨r, q2, v8, J, cl, rfl, kJ, lcl, fJ, hcl⟩ := key2
 have M : ∀ J', (∀ i, h.length ≤ i → i < J.length → J'[i]? = J[i]?) → IsM eU ro J' v8 ((List.range (y + 1)).map (rowN z)) := by
  intro J' hJ'
  have hrows : ∀ i x, ((List.range (y + 1)).map (rowN z))[i]? = some x → ∃ u, cl[i]? = some u ∧ IsR eU ro J' u x := fun i x hx => by
   have hi : i < y + 1 := by have := (List.getElem?_eq_some_iff.1 hx).1; simpa using this
   obtain ⟨b, c, f1, f2, f3, f4, f5⟩ := hcl i (by omega)
   simp only [List.getElem?_map, List.getElem?_range hi, Option.map_some, Option.some.injEq] at hx
   subst hx
   exact ⟨_, f1, (f4.keep (hJ' b (by omega) f3)).R _ (by rw [qjt, hn])⟩
  have hlen : ((List.range (y + 1)).map (rowN z)).length = y + 1 := by simp
  rcases fJ with g | ⟨b, e1, e2, e3⟩
  ·rcases g with ⟨-, e⟩ | ⟨b, blk, e1, e2, e3, e4, e5, e6, e7⟩
   ·rw [e] at lcl; simp at lcl
   ·rw [e1, lcl]
    have := rowsM (ro := ro) (enc := eU) (x := (List.range (y + 1)).map (rowN z)) (c := .grow) (Holds.keep (⟨blk, e4, e6, e7⟩ : Holds J b cl) (hJ' b (by omega) (qgk e4))) (by rw [hlen, lcl]) hrows
    rwa [hlen] at this
  ·rw [e1, lcl]
   have := rowsM (ro := ro) (enc := eU) (x := (List.range (y + 1)).map (rowN z)) (c := .known (y + 1)) (e3.keep (hJ' b (by omega) e3.lt)) (by rw [hlen, lcl]) hrows
   rwa [hlen] at this
 have kh : Keep h J := k1.trans kJ
 obtain ⟨H, f1, f2, f3⟩ := qft (w := v8) kh
 have hbel : v8.bel h.length = false := by
  have : ∀ b, H1.length ≤ b → Nat.blt b h.length = false := fun b hb => by rw [← Bool.not_eq_true, Nat.blt_eq]; omega
  rcases fJ with g | ⟨b, e1, e2, e3⟩
  ·rcases g with ⟨-, e⟩ | ⟨b, blk, e1, e2, e3, -⟩
   ·rw [e] at lcl; simp at lcl
   ·rw [e1]; simp [AVal.bel, this b e3]
  ·rw [e1]; simp [AVal.bel, this b e2]
 obtain rfl := f3 hbel
 have hcap : CapOk v8 (y + 1) := by
  rcases fJ with g | ⟨b, e1, e2, e3⟩
  ·rcases g with ⟨-, e⟩ | ⟨b, blk, e1, e2, e3, -⟩
   ·rw [e] at lcl; simp at lcl
   ·intro q m c e; rw [e1] at e; cases e
  ·intro q m c e; rw [e1] at e; cases e; omega
 refine ⟨v8, _, g48_ok (qav F1 ro) (Ovr.no rfl) (?_ : _ = some (v8, H, h.length, h.length)), kh, M, hcap⟩
 unfold g48
 subst hL
 simp only [mC, cM c1 (Nat.le_refl _) (Nat.le_refl _), pS, len_S a, oS, iS, ← hn, hm, qha, qaw, q1, hb4, q2, tA]
 exact f1
theorem lengths48 {v : AVal} {z : List (List UInt8)} (a : IsS ro h v z) (hz : VOk z) {y : Nat} (hy : y ≤ 1000) :
  ∃ w H, callX F1 ro 48 [v, .i .i64 (y : Int)] h = some (w, H, h.length, h.length) ∧ Keep h H ∧ IsM eU ro H w ((List.range (y + 1)).map (rowN z)) := by
 obtain ⟨w, H, h1, h2, h3, -⟩ := lengths48x a hz hy
 exact ⟨w, H, h1, h2, h3 H fun _ _ _ => rfl⟩
end
end Go.Proofs.Ytfohppnelbbepaa.T
/- long; table -/
open Go.Vm
set_option linter.unusedVariables false
set_option linter.unusedSectionVars false
namespace Go.Proofs.Ytfohppnelbbepaa.T
open Go
variable [Ovr]
section
variable {ro : List ABlk} {h hp : Heap}
theorem setF {n p : Nat} {f g : Nat → AVal} {w : AVal} (hg : ∀ t, t < n → t ≠ p → f t = g t) (hw : p < n → g p = w) : ((List.range n).map f).set p w = (List.range n).map g := by
 refine List.ext_getElem? fun t => ?_
 rw [List.getElem?_set]
 rcases Nat.lt_or_ge t n with ht | ht
 ·by_cases e : p = t
  ·subst e
   rw [if_pos rfl]
   simp [ht, hw ht]
  ·rw [if_neg e]
   simp only [List.getElem?_map, List.getElem?_range ht, Option.map_some]
   rw [hg t ht fun e2 => e e2.symm]
 ·by_cases e : p = t
  ·subst e
   rw [if_pos rfl, if_neg (by simpa using ht), List.getElem?_eq_none (by simpa using ht)]
  ·rw [if_neg e, List.getElem?_eq_none (by simpa using ht), List.getElem?_eq_none (by simpa using ht)]
theorem take_snoc {α : Type} {s : List α} {i : Nat} (d : α) (hi : i < s.length) : s.take (i + 1) = s.take i ++ [s.getD i d] := by
 rw [List.take_succ_eq_append_getElem hi]
 congr 1
 simp [List.getD, hi]
theorem sumS_take {f : Nat → Nat} {s : List UInt8} {i : Nat} (hi : i < s.length) : sumS f (s.take (i + 1)) = sumS f (s.take i) + f (ix (s.getD i 0)) := by
 rw [take_snoc 0 hi, sumS_app]; rfl
theorem long49 {v : AVal} {z : List (List UInt8)} {y : Nat} {s : List UInt8} (a : IsR eU ro h v (rowN z y)) (hs : s.length ≤ 1000000) (hh : has z.length s) : callX F1 ro 49 [v, .s s] h = some (.i .u64 ((sat (lenS z y s) : Nat) : Int), h, h.length, h.length) := by
 refine g49_ok (qav F1 ro) (Ovr.no rfl) ?_
 unfold g49
 simp only [qcr, oS, iS, qaw]
 have hl := loop_run (b := fun t : Int × Int × Mm => g49_b0 (qbs F1 ro) ro v s (s.length : Int) t.1 t.2.1 t.2.2) (fun j => (((sat (sumS (cnt z y) (s.take j)) : Nat) : Int), (j : Int), (⟨h, h.length, h.length⟩ : Mm))) s.length
  (r0 := (((sat (sumS (cnt z y) (s.take s.length)) : Nat) : Int), (⟨h, h.length, h.length⟩ : Mm))) ?_ ?_
 ·have e : ((((sat (sumS (cnt z y) (s.take 0)) : Nat) : Int), ((0 : Nat) : Int), (⟨h, h.length, h.length⟩ : Mm)) : Int × Int × Mm) = (0, 0, ⟨h, h.length, h.length⟩) := by simp [sumS, sat]
  rw [e] at hl
  rw [hl, List.take_length]
  simp only [oS, tA]
  exact qbe rfl
 ·simp only [g49_b0, fB, ltF (Int.lt_irrefl _), cF]
 ·intro j hj
  have hb := hh j hj
  have hx := ix_lt hb
  obtain ⟨p, g1, g2⟩ := at_R a (rowN_get z y hx)
  have e1 := plus86 (ro := ro) (h := h) (sat_le (sumS (cnt z y) (s.take j))) (sat_le (cnt z y (ix (s.getD j 0))))
  rw [qkj, ← sumS_take hj] at e1
  simp only [g49_b0, fB, ltT (show (j : Int) < (s.length : Int) by omega), cT, qgl hj, oS, iS, mC, cp0 (qhf (ro := ro) (h := h) hb), pS, g1, (g2 (Keep.refl h)).1, cp0 e1, fI', nx (show j ≤ 1000000 by omega)]
end
end Go.Proofs.Ytfohppnelbbepaa.T
/- What visit hands over -/
open Go.Vm
set_option linter.unusedVariables false
set_option linter.unusedSectionVars false
namespace Go.Proofs.Ytfohppnelbbepaa.T
open Go
variable [Ovr]
def grw (z : List (List UInt8)) : Nat → List UInt8 → List UInt8
 | 0, s => s
 | y + 1, s => s.flatMap fun b => grw z y (z.getD (ix b) [])
theorem qlb (z : List (List UInt8)) : ∀ y s t, grw z y (s ++ t) = grw z y s ++ grw z y t
 | 0, s, t => rfl
 | y + 1, s, t => List.flatMap_append
theorem grw_one (z : List (List UInt8)) (y : Nat) (b : UInt8) : grw z (y + 1) [b] = grw z y (z.getD (ix b) []) := by
 show List.flatMap _ [b] = _
 simp
theorem grw_len (z : List (List UInt8)) : ∀ y s, (grw z y s).length = lenS z y s
 | 0, s => by
  show s.length = sumS (fun _ => 1) s
  induction s with
  | nil => rfl
  | cons b s ih => show s.length + 1 = 1 + sumS _ s; omega
 | y + 1, s => by
  show (s.flatMap fun b => grw z y (z.getD (ix b) [])).length = sumS (cnt z (y + 1)) s
  induction s with
  | nil => rfl
  | cons b s ih =>
   rw [List.flatMap_cons, List.length_append, ih, grw_len z y]
   rfl
theorem lenS_app (z : List (List UInt8)) (y : Nat) (s t : List UInt8) : lenS z y (s ++ t) = lenS z y s + lenS z y t := sumS_app _ _ _
section
variable {ro : List ABlk} {h hp : Heap}
theorem callM_of {F : Tab} {H H2 : Heap} {f : Nat} {vs : List AVal} {v : AVal} {lw lp a b : Nat} (e : callX F ro f vs H = some (v, H2, lw, lp)) : callM (callX F ro) ⟨H, a, b⟩ f vs = some (v, ⟨H2, min a lw, min b lp⟩) := by
 unfold callM; simp only [e]
end
end Go.Proofs.Ytfohppnelbbepaa.T
/- from -/
open Go.Vm
set_option linter.unusedVariables false
set_option linter.unusedSectionVars false
namespace Go.Proofs.Ytfohppnelbbepaa.T
open Go
variable [Ovr]
section
variable {ro : List ABlk} {h hp : Heap}
theorem Holds.set1 {b : Nat} {x w : AVal} (a : Holds hp b [x]) (h1 : w.one = true) (hc : w.cells = [w]) : ∃ hp', (∀ l p, stepM ro ⟨hp, l, p⟩ (.st 1 (.c (.p (some ⟨false, b, 0⟩))) (.c w)) = some (und, ⟨hp', min l b, cond (nonp [w]) p (min p b)⟩)) ∧ Holds hp' b [w] ∧ hp'.length = hp.length ∧ ∀ i, i ≠ b → hp'[i]? = hp[i]? := by
 obtain ⟨hp', g1, g2, g3, g4⟩ := a.put (ro := ro) (k := 0) (w := w) (by simp) h1 hc
 exact ⟨hp', g1, g2, g3, g4⟩
theorem Holds.ld1 {b : Nat} {x : AVal} (a : Holds hp b [x]) (l p : Nat) : ldM ro ⟨hp, l, p⟩ true 1 (.p (some ⟨false, b, 0⟩)) = some x := (a.ld (ro := ro) (k := 0) rfl l p).1
theorem box1 {e l p : Nat} {w : AVal} (hw : w.cells = [w]) : stepM ro ⟨hp, l, p⟩ (.bx e 1 (.c w)) = some (.p (some ⟨false, hp.length, 0⟩), ⟨hp ++ [some (blkOf e [w])], l, p⟩) := by
 have hbq : Nat.beq [w].length 1 = true := rfl
 simp only [stepM, stepK, opd, st_bx, hw, hbq, cond_true, newB, St.mm]
end
end Go.Proofs.Ytfohppnelbbepaa.T
/- Grow: the letters gathered -/
open Go.Vm
set_option linter.unusedVariables false
set_option linter.unusedSectionVars false
namespace Go.Proofs.Ytfohppnelbbepaa.T
open Go
variable [Ovr]
section
variable {ro : List ABlk} {h hp : Heap}
theorem bytesA_ok : ∀ l : List UInt8, qdz (l.map bv) = some l
 | [] => rfl
 | c :: l => by
  have h1 : Nat.blt c.toNat 256 = true := by rw [Nat.blt_eq]; exact c.toNat_lt
  have h2 : UInt8.ofNat c.toNat = c := UInt8.ofNat_toNat
  show qdz (AVal.i .u8 (Int.ofNat c.toNat) :: l.map bv) = _
  simp only [qdz, h1, cond_true, bytesA_ok l, h2, Option.map_some]
def RecAt (K : Heap) (b : Nat) (L : LRec) (s : LoopState) (p : Option AExit) : Prop := ∃ blk : ABlk, lget K b = some (some blk) ∧ blk.g = some (.lp L s p)
theorem RecAt.lt {K : Heap} {b : Nat} {L : LRec} {s : LoopState} {p : Option AExit} (a : RecAt K b L s p) : b < K.length := by obtain ⟨blk, h1, -⟩ := a; exact qgk h1
theorem RecAt.keep {K K' : Heap} {b : Nat} {L : LRec} {s : LoopState} {p : Option AExit} (a : RecAt K b L s p) (hk : K'[b]? = K[b]?) : RecAt K' b L s p := by
 obtain ⟨blk, h1, h2⟩ := a
 exact ⟨blk, by rw [qkw hk]; exact h1, h2⟩
theorem RecAt.begin {K : Heap} {b : Nat} {L : LRec} {p : Option AExit} (a : RecAt K b L .ready p) : ∃ K', (∀ l q, rndB b ⟨K, l, q⟩ = some ⟨K', min l b, q⟩) ∧ RecAt K' b L .busy p ∧ K'.length = K.length ∧ ∀ i, i ≠ b → K'[i]? = K[i]? := by
 obtain ⟨blk, h1, h2⟩ := a
 refine ⟨K.set b (some { blk with g := some (.lp L .busy p) }), fun l q => ?_, ⟨_, qfs h1 _, rfl⟩, by simp, fun i hi => List.getElem?_set_ne (Ne.symm hi)⟩
 simp only [rndB, begL, h1, h2, qby]
theorem RecAt.done {K : Heap} {b : Nat} {L : LRec} {s : LoopState} {p : Option AExit} (a : RecAt K b L s p) (e : AExit) : ∃ K', (∀ len l q, rndE len b e ⟨K, l, q⟩ = some (gc len (.b e.on) ⟨.e, K', min l b, q⟩)) ∧ RecAt K' b L e.after e.pend ∧ K'.length = K.length ∧ ∀ i, i ≠ b → K'[i]? = K[i]? := by
 obtain ⟨blk, h1, h2⟩ := a
 refine ⟨K.set b (some { blk with g := some (.lp L e.after e.pend) }), fun len l q => ?_, ⟨_, qfs h1 _, rfl⟩, by simp, fun i hi => List.getElem?_set_ne (Ne.symm hi)⟩
 simp only [rndE, setL, h1, h2, qby]
theorem RecAt.ended {K : Heap} {b : Nat} {L : LRec} {p : Option AExit} {s : LoopState} (hs : s ≠ .busy) (a : RecAt K b L s p) : endL K b = some (p, lset none K b) := by
 obtain ⟨blk, h1, h2⟩ := a
 cases s with
 | busy => exact absurd rfl hs
 | ready => simp only [endL, h1, h2]
 | done => simp only [endL, h1, h2]
 | _ => simp only [endL, h1, h2]
end
end Go.Proofs.Ytfohppnelbbepaa.T
/- Down, Grow, Long -/
open Go.Vm
set_option linter.unusedVariables false
set_option linter.unusedSectionVars false
namespace Go.Proofs.Ytfohppnelbbepaa.T
open Go
variable [Ovr]
section
variable {ro : List ABlk} {h hp : Heap}
theorem byteA_eq (b : UInt8) : byteA b = bv b := by simp [byteA, qbu]
theorem RowG.pushS {L l p : Nat} {v : AVal} {c t : List UInt8} (g : RowG hp L 5 v (c.map bv)) (hL : L ≤ hp.length) (hk : c.length + t.length ≤ 1000000) :
  ∃ v' hp' l' p', stepM ro ⟨hp, l, p⟩ (.app 5 1 1 [(AVal.i IntKind.u8 0)] (.c v) (.c (.s t))) = some (v', ⟨hp', l', p'⟩) ∧ RowG hp' L 5 v' ((c ++ t).map bv) ∧ hp.length ≤ hp'.length ∧ (∀ i, i < hp.length → rb v ≠ some i → hp'[i]? = hp[i]?) ∧ (∀ a, a ≤ L → a ≤ l → a ≤ p → a ≤ l' ∧ a ≤ p') ∧ l' ≤ l ∧ p' ≤ p ∧ ((t = [] ∧ v' = v ∧ hp' = hp ∧ l' = l ∧ p' = p) ∨ rb v' = some hp.length) := by
 have src : qeo ro hp 1 (.s t) = some (t.map bv, t.length) := by
  have e : t.map byteA = t.map bv := List.map_congr_left fun b _ => byteA_eq b
  have e1 : Nat.beq 1 1 = true := rfl
  simp only [qeo, e1, cond_true, e]
 have ho : ∀ l : List UInt8, ones (l.map bv) = true := fun l => by
  induction l with
  | nil => rfl
  | cons b l ih => simp only [List.map_cons, ones, ih]; rfl
 cases t with
 | nil =>
  refine ⟨v, hp, l, p, ?_, by simpa using g, Nat.le_refl _, fun _ _ _ => rfl, fun a _ h2 h3 => ⟨h2, h3⟩, Nat.le_refl _, Nat.le_refl _, .inl ⟨rfl, rfl, rfl, rfl, rfl⟩⟩
  have e0 : Nat.beq ([] : List UInt8).length 0 = true := rfl
  rcases g with ⟨rfl, e⟩ | ⟨b, blk, rfl, -⟩
  ·simp only [stepM, stepK, opd, qgb, src, e0, cond_true, St.mm]
  ·simp only [stepM, stepK, opd, qgb, src, e0, cond_true, St.mm]
 | cons x t =>
  obtain ⟨s, hs⟩ : ∃ s, s = x :: t := ⟨_, rfl⟩
  have hsl : 0 < s.length := by rw [hs]; simp
  rw [← hs] at src hk ⊢
  have e0 : Nat.beq s.length 0 = false := by
   cases hb : Nat.beq s.length 0
   ·rfl
   ·have := Nat.eq_of_beq_eq_true hb; omega
  rcases g with ⟨rfl, e⟩ | ⟨b, blk, rfl, hpos, hLb, hbk, hbe, hbn, hrows⟩
  ·have ec : c = [] := by simpa using e
   subst ec
   refine ⟨.sl ⟨false, hp.length, 0⟩ s.length .grow, hp ++ [some (blkOf 5 (s.map bv))], l, p, ?_, .inr ⟨hp.length, blkOf 5 (s.map bv), by simp, by simpa using hsl, hL, qed _ _, rfl, by simp [blkOf], fun j hj => by simpa using qdu 5 (s.map bv) j⟩, by simp, fun i hi _ => List.getElem?_append_left hi, fun a _ h2 h3 => ⟨h2, h3⟩, Nat.le_refl _, Nat.le_refl _, .inr rfl⟩
   have ef : fits s.length 1 = true := qez (by simp at hk; omega) (by omega)
   simp only [stepM, stepK, opd, qgb, src, e0, cond_false, ef, cond_true, newB, St.mm]
  ·rw [List.length_map] at hpos hbn hrows ⊢
   have hlt : b < hp.length := qgk hbk
   have hrow : blk.c.row 0 (c.length * 1) = c.map bv := qgg (c.length * 1) 0 _ (by simp) fun j hj => by rw [Nat.zero_add]; exact hrows j (by omega)
   refine ⟨.sl ⟨false, hp.length, 0⟩ (c.length + s.length) .grow, lset none hp b ++ [some (blkOf 5 ((c ++ s).map bv))], min l b, min p b, ?_, .inr ⟨hp.length, blkOf 5 ((c ++ s).map bv), by simp, by simp; omega, hL, ?_, rfl, by simp [blkOf], fun j hj => qdu 5 _ j⟩, by simp [qby], fun i hi hn => ?_, fun a h1 h2 h3 => ⟨by omega, by omega⟩, Nat.min_le_left _ _, Nat.min_le_left _ _, .inr rfl⟩
   ·have h1 : (Nat.beq blk.e 5 && Nat.ble (c.length * 1) blk.n && fits (c.length + s.length) 1 && ones (s.map bv)) = true := by
     rw [hbe, qez (by omega) (by omega), ho]
     simp [Nat.ble_eq]; omega
    have h2 : (!Nat.beq 0 0) = false := rfl
    have h3 : Nat.blt 0 blk.n = true := by rw [Nat.blt_eq]; omega
    simp only [stepM, stepK, opd, qgb, src, qfy, e0, h2, cond_false, Bool.or_false, hbk, h1, h3, Bool.and_self, cond_true, St.mm, hrow, qby, List.length_set, List.map_append]
   ·rw [qbk, qby, List.getElem?_append_right (by simp)]
    simp
   ·have hne : b ≠ i := fun e => hn (by rw [e]; rfl)
    rw [qby, List.getElem?_append_left (by simpa using hi), List.getElem?_set_ne hne]
/- Grow and Long -/
noncomputable def longV (z : List (List UInt8)) (s : List UInt8) (y : Int) : Int × Int := if errY z s y ≠ 0 then (0, errY z s y) else if 1152921504606846976 < lenS z y.toNat s then (0, 4) else ((lenS z y.toNat s : Int), 0)
theorem sat_lt {n m : Nat} (hm : m < 9223372036854775808) : m < sat n ↔ m < n := by unfold sat; omega
theorem long19 {v : AVal} {z : List (List UInt8)} {s : List UInt8} {y : Int} (a : IsS ro h v z) (hf : z.length ≤ 1000000 ∧ (∀ i, i < z.length → (z.getD i []).length ≤ 1000000) ∧ s.length ≤ 1000000) :
  callX F1 ro 19 [v, .s s, .i .i64 y] h = some (.tup [.i .i64 (longV z s y).1, .i .i64 (longV z s y).2], h, h.length, h.length) := by
 refine g19_ok (qav F1 ro) (Ovr.no rfl) ?_
 unfold g19 longV
 simp only [mC, cp0 (years47 (y := y) a hf.1 hf.2.1 hf.2.2), pS, x0, x1, oS, iS, fB]
 by_cases h0 : errY z s y = 0
 rotate_left
 ·simp only [qfa h0, nF, cT, tA2, if_pos h0]
  exact qbe rfl
 have e0 : eqI (errY z s y) 0 = true := by rw [h0]; rfl
 obtain ⟨hS, k, rfl, hk⟩ := errY_ok h0
 have hz := VOk.of (qjm hS)
 obtain ⟨hs30, hsh⟩ := qiu hS
 rw [if_neg (show ¬ errY z s (k : Int) ≠ 0 from fun e => e h0)]
 simp only [e0, nT, cF, if_pos h0, Int.toNat_natCast]
 obtain ⟨w, H, c1, k1, M⟩ := lengths48 (ro := ro) a hz hk
 obtain ⟨p1, u1, i1, i2, i3⟩ := at_M M (i := k) (z := rowN z k) (by simp)
 have c49 := long49 (ro := ro) i2 hf.2.2 hsh
 simp only [cM c1 (Nat.le_refl _) (Nat.le_refl _), pS, i1, oS, (i3 (Keep.refl H)).1, cp c49 k1.1 k1.1, iS]
 by_cases hc : 1152921504606846976 < lenS z k s
 ·have hc' := (sat_lt (n := lenS z k s) (m := 1152921504606846976) (by omega)).2 hc
  simp only [ltT (show (1152921504606846976 : Int) < ((sat (lenS z k s) : Nat) : Int) by omega), cT, if_pos hc, tA2]
  exact qce k1 rfl
 ·have e : sat (lenS z k s) = lenS z k s := by unfold sat; omega
  simp only [e, ltF (show ¬ (1152921504606846976 : Int) < ((lenS z k s : Nat) : Int) by omega), cF, if_neg hc, fI', lt64 (show lenS z k s ≤ 9223372036854775807 by omega), tA2]
  exact qce k1 rfl
end
end Go.Proofs.Ytfohppnelbbepaa.T
/- Dies, buds -/
open Go.Vm
set_option linter.unusedVariables false
set_option linter.unusedSectionVars false
namespace Go.Proofs.Ytfohppnelbbepaa.T
open Go
variable [Ovr]
section
variable {ro : List ABlk} {h hp : Heap}
theorem slS_to {s : List UInt8} {n : Nat} (hn : n ≤ s.length) : evP .e (.slStr (.c (.s s)) none (some (.c (.i .i64 (n : Int))))) = some (.s (s.take n)) := by
 have e4 : ((n : Nat) : Int) = Int.ofNat n := rfl
 have e5 : Nat.ble n s.length = true := by rw [Nat.ble_eq]; exact hn
 simp only [evP, qgv, opd, e4, Option.map_some, qct, e5, cond_true, Option.map_none, List.drop_zero]
theorem slS_from {s : List UInt8} {n : Nat} (hn : n ≤ s.length) : evP .e (.slStr (.c (.s s)) (some (.c (.i .i64 (n : Int)))) none) = some (.s (s.drop n)) := by
 have e4 : ((n : Nat) : Int) = Int.ofNat n := rfl
 have e5 : Nat.ble n s.length = true := by rw [Nat.ble_eq]; exact hn
 simp only [evP, qgv, opd, e4, Option.map_some, qct, e5, cond_true, Option.map_none, List.drop_zero]
 simp
theorem strEq {s t : List UInt8} : evP .e (.sbin BinOp.eql (.c (.s s)) (.c (AVal.s t))) = some (.b (decide (s = t))) := by
 have : eqL s t = decide (s = t) := by
  induction s generalizing t with
  | nil => cases t <;> rfl
  | cons a s ih => cases t with
   | nil => rfl
   | cons b t =>
    have e : eqL (a :: s) (b :: t) = cond (Nat.beq a.toNat b.toNat) (eqL s t) false := rfl
    rw [e, ih]
    by_cases hab : a = b
    ·subst hab; simp
    ·have h2 : Nat.beq a.toNat b.toNat = false := by
      cases hb : Nat.beq a.toNat b.toNat
      ·rfl
      ·exact absurd (UInt8.toNat_inj.1 (Nat.eq_of_beq_eq_true hb)) hab
     rw [h2]
     simp [hab]
 simp only [evP, qit, opd, sOp, this]
theorem pre104 {s t : List UInt8} : callX F1 ro 104 [.s s, .s t] h = some (.b (decide (s.take t.length = t)), h, h.length, h.length) := by
 refine g104_ok (qav F1 ro) (Ovr.no rfl) ?_
 unfold g104
 rcases Nat.lt_or_ge s.length t.length with h1 | h1
 ·have : ¬ s.take t.length = t := fun e => by have := congrArg List.length e; simp at this; omega
  simp only [qcr, oS, iS, fB, ltT (show (s.length : Int) < (t.length : Int) by omega), nT, cF, tA, dF this]
  exact qbe rfl
 ·simp only [qcr, oS, iS, fB, ltF (show ¬ (s.length : Int) < (t.length : Int) by omega), nF, cT, slS_to h1, sS, strEq, bS, tA]
  exact qbe rfl
theorem cut97 {s t : List UInt8} : callX F1 ro 97 [.s s, .s t] h = some (.tup [.s (if s.take t.length = t then s.drop t.length else s), .b (decide (s.take t.length = t))], h, h.length, h.length) := by
 have c102 : callX F1 ro 102 [.s s, .s t] h = some (.tup [.s (if s.take t.length = t then s.drop t.length else s), .b (decide (s.take t.length = t))], h, h.length, h.length) := by
  refine g102_ok (qav F1 ro) (Ovr.no rfl) ?_
  unfold g102
  simp only [mC, cp0 pre104, pS, bS, fB]
  by_cases hc : s.take t.length = t
  ·have hl : t.length ≤ s.length := by have := congrArg List.length hc; simp at this; omega
   simp only [dT hc, nT, cF, if_pos hc, qcr, oS, iS, slS_from hl, sS, tA2]
   exact qbx rfl rfl
  ·simp only [dF hc, nF, cT, if_neg hc, tA2]
   exact qbx rfl rfl
 refine g97_ok (qav F1 ro) (Ovr.no rfl) ?_
 unfold g97
 simp only [mC, cp0 c102, pS, x0, x1, oS, sS, bS, tA2]
 exact qbx rfl rfl
def dieY (z : List (List UInt8)) (s : List UInt8) : Option Nat := (List.range (z.length + 1)).find? fun y => decide (lenS z y s = 0)
theorem dieY_some {z : List (List UInt8)} {s : List UInt8} {y : Nat} (hy : y ≤ z.length) (h0 : lenS z y s = 0) (h1 : ∀ y', y' < y → lenS z y' s ≠ 0) : dieY z s = some y := by
 unfold dieY
 rw [List.find?_range_eq_some]
 refine ⟨by simp [h0], by simp; omega, fun j hj => by simp [h1 j hj]⟩
theorem dieY_none {z : List (List UInt8)} {s : List UInt8} (h1 : ∀ y', y' < z.length + 1 → lenS z y' s ≠ 0) : dieY z s = none := by
 unfold dieY
 rw [List.find?_range_eq_none]
 exact fun j hj => by simp [h1 j hj]
def dieA (z : List (List UInt8)) (s : List UInt8) : AVal := match dieY z s with
 | some y => .tup [.i .i64 (y : Int), .b true]
 | none => .tup [.i .i64 0, .b false]
theorem dies61 {v : AVal} {z : List (List UInt8)} {s : List UInt8} (a : IsS ro h v z) (hz : VOk z) (hs : s.length ≤ 1000000) (hh : has z.length s) : callX F1 ro 61 [v, .s s] h = some (dieA z s, h, h.length, h.length) := by
 have n6 := hz.h6
 obtain ⟨w, H, c1, k1, M⟩ := lengths48 (ro := ro) a hz (y := z.length) (by omega)
 obtain ⟨L, hL⟩ : ∃ L, L = h.length := ⟨_, rfl⟩
 have hLH := k1.1
 have hlen := len_M M
 have hl0 : ((List.range (z.length + 1)).map (rowN z)).length = z.length + 1 := by simp
 rw [hl0] at hlen
 have c1' := callM_of (a := h.length) (b := h.length) c1
 rw [Nat.min_self] at c1'
 refine g61_ok (qav F1 ro) (Ovr.no rfl) ?_
 unfold g61
 simp only [len_S a, oS, iS, mC, c1', pS, hlen, qaw]
 have key : ∃ r, loopX (fun q : Int × Mm => g61_b0 (qbs F1 ro) ro s w ((z.length + 1 : Nat) : Int) q.1 q.2) (0, ⟨H, L, L⟩) = some r ∧ ((r = .inl ⟨H, L, L⟩ ∧ ∀ y, y < z.length + 1 → lenS z y s ≠ 0) ∨ ∃ y : Nat, r = .inr ((y : Int), true, ⟨H, L, L⟩) ∧ y ≤ z.length ∧ lenS z y s = 0 ∧ ∀ y', y' < y → lenS z y' s ≠ 0) := by
  refine loop_exit (z.length + 1) (fun y q => q = ((y : Int), ⟨H, L, L⟩) ∧ ∀ y', y' < y → lenS z y' s ≠ 0) _ ?_ ?_ (z.length + 1) 0 _ (by omega) ⟨rfl, fun y' h => by omega⟩
  ·rintro y q hy ⟨rfl, hall⟩
   obtain ⟨p1, u1, i1, i2, i3⟩ := at_M M (i := y) (z := rowN z y) (by simp [hy])
   have hc := callM_of (a := L) (b := L) (long49 (ro := ro) (y := y) (s := s) (z := z) i2 hs hh)
   rw [show min L H.length = L by omega] at hc
   rcases Nat.eq_zero_or_pos (lenS z y s) with h0 | h0
   ·refine .inr ⟨_, (by simp only [g61_b0, fB, ltT (show (y : Int) < ((z.length + 1 : Nat) : Int) by omega), cT, i1, oS, (i3 (Keep.refl H)).1, mC, hc, pS, iS, h0, show ((sat 0 : Nat) : Int) = 0 from rfl, qds] <;> rfl), .inr ⟨y, rfl, by omega, h0, hall⟩⟩
   ·have hn : ((sat (lenS z y s) : Nat) : Int) ≠ 0 := by unfold sat; omega
    refine .inl ⟨_, (by simp only [g61_b0, fB, ltT (show (y : Int) < ((z.length + 1 : Nat) : Int) by omega), cT, i1, oS, (i3 (Keep.refl H)).1, mC, hc, pS, iS, qfa hn, cF, fI', nx (show y ≤ 1000000 by omega)] <;> rfl), rfl, fun y' hy' => ?_⟩
    rcases Nat.lt_or_ge y' y with h | h
    ·exact hall y' h
    ·obtain rfl : y' = y := by omega
     omega
  ·rintro q ⟨rfl, hall⟩
   exact ⟨_, (by simp only [g61_b0, fB, ltF (Int.lt_irrefl _), cF] <;> rfl), .inl ⟨rfl, hall⟩⟩
 obtain ⟨r, q1, q2⟩ := key
 rw [hL] at q1 q2
 rcases q2 with ⟨rfl, hall⟩ | ⟨y, rfl, hy, h0, hall⟩
 ·have : dieA z s = .tup [.i .i64 0, .b false] := by unfold dieA; rw [dieY_none hall]
  rw [q1, this]
  simp only [oS, tA2]
  exact qce k1 rfl
 ·have : dieA z s = .tup [.i .i64 (y : Int), .b true] := by unfold dieA; rw [dieY_some hy h0 hall]
  rw [q1, this]
  simp only [oS, tA2]
  exact qce k1 rfl
def isBud (z : List (List UInt8)) (p : Nat) : Bool := decide ((z.getD p []).take 1 = [UInt8.ofNat (97 + p)]) && (dieY z ((z.getD p []).drop 1)).isNone
theorem bud72 {v : AVal} {z : List (List UInt8)} {p : Nat} (a : IsS ro h v z) (hz : VOk z) (hp : p < z.length) : callX F1 ro 72 [v, .i .i64 (p : Int)] h = some (.b (isBud z p), h, h.length, h.length) := by
 refine g72_ok (qav F1 ro) (Ovr.no rfl) ?_
 unfold g72
 have n6 := hz.h6
 have h8 := hz.h8 p hp
 obtain ⟨q, g1, g2⟩ := at_S a hp
 have e1 : ([UInt8.ofNat (97 + p)] : List UInt8).length = 1 := rfl
 have g3 := (g2 (l := 0) (q := 0) (Keep.refl h)).2
 simp only [baseL, g1, oS, g3, sS, mC, cp0 (letter89 (ro := ro) (h := h) (show p ≤ 100 by omega)), pS, chkL (Nat.le_refl h.length), ckT, cp0 cut97, x0, x1, bS, joinL (Nat.le_refl _) (Nat.le_refl _), fB, e1]
 unfold isBud
 by_cases hc : (z.getD p []).take 1 = [UInt8.ofNat (97 + p)]
 ·have hd : has z.length ((z.getD p []).drop 1) := fun i hi => by
   have hi' : 1 + i < (z.getD p []).length := by rw [List.length_drop] at hi; omega
   have := hz.hh p hp (1 + i) hi'
   have e : ((z.getD p []).drop 1).getD i 0 = (z.getD p []).getD (1 + i) 0 := by simp only [List.getD_eq_getElem?_getD, List.getElem?_drop]
   rw [e]; exact this
  have c61 := dies61 (ro := ro) a hz (s := (z.getD p []).drop 1) (by rw [List.length_drop]; omega) hd
  simp only [dT hc, nT, cF, if_pos hc, cp0 c61, pS]
  unfold dieA
  cases hy : dieY z ((z.getD p []).drop 1) with
  | none =>
   simp only [x0, x1, oS, iS, bS, nF, tA]
   exact qbe rfl
  | some y =>
   simp only [x0, x1, oS, iS, bS, nT, tA]
   exact qbe rfl
 ·simp only [dF hc, nF, cT, tA]
  exact qbe rfl
noncomputable def errU (z : List (List UInt8)) (s : List UInt8) : Int := if errV z ≠ 0 then errV z else if s.length = 1 ∧ has z.length s then (if isBud z (ix (s.getD 0 0)) = true then 0 else 10) else 5
theorem errU_ok {z : List (List UInt8)} {s : List UInt8} (e : errU z s = 0) : VOk z ∧ s.length = 1 ∧ has z.length s ∧ isBud z (ix (s.getD 0 0)) = true := by
 unfold errU at e
 split at e
 ·rename_i hn; exact absurd e hn
 ·rename_i hv
  split at e
  ·rename_i hh
   split at e
   ·rename_i hb
    exact ⟨VOk.of (by simpa using hv), hh.1, hh.2, hb⟩
   ·cases e
  ·cases e
theorem readBud74 {v : AVal} {z : List (List UInt8)} {s : List UInt8} (a : IsS ro h v z) (hz : z.length ≤ 1000000) (hf : ∀ i, i < z.length → (z.getD i []).length ≤ 1000000) (hs : s.length ≤ 1000000) :
  callX F1 ro 74 [v, .s s] h = some (.tup [if errU z s = 0 then v else .nsl, .i .i64 (if errU z s = 0 then (ix (s.getD 0 0) : Int) else 0), .i .i64 (errU z s)], h, h.length, h.length) := by
 refine g74_ok (qav F1 ro) (Ovr.no rfl) ?_
 unfold g74
 have c71 := vine71 (ro := ro) (h := h) a hz hf
 simp only [mC, cp0 c71, pS, x0, x1, oS, iS, fB]
 by_cases hv : errV z = 0
 rotate_left
 ·have e1 : errU z s = errV z := by unfold errU; rw [if_pos hv]
  simp only [e1, qfa hv, nF, cT, if_neg hv, tA3]
  exact qbe (by simp [AVal.bel, bels])
 have vok := VOk.of hv
 simp only [hv, qds, nT, cF, if_true, qcr, oS, iS]
 by_cases h1 : s.length = 1
 rotate_left
 ·have e1 : errU z s = 5 := by unfold errU; rw [if_neg (by simp [hv]), if_neg fun e => h1 e.1]
  have e5 : ¬ (5 : Int) = 0 := by decide
  simp only [qfa (show (s.length : Int) ≠ 1 by omega), nF, cT, oS, e1, if_neg e5, tA3]
  exact qbe rfl
 have e0 : eqI (s.length : Int) 1 = true := by rw [h1]; rfl
 simp only [e0, nT, cF, cp0 (has92 (s := s) a hs hz), pS, bS, oS]
 by_cases hh : has z.length s
 rotate_left
 ·have e1 : errU z s = 5 := by unfold errU; rw [if_neg (by simp [hv]), if_neg fun e => hh e.2]
  have e5 : ¬ (5 : Int) = 0 := by decide
  simp only [dF hh, nF, cT, e1, if_neg e5, tA3]
  exact qbe rfl
 have hb := hh 0 (by omega)
 have hx := ix_lt hb
 simp only [dT hh, nT, cF, qgl (show 0 < s.length by omega), show ((0 : Nat) : Int) = 0 from rfl, oS, iS]
 have i0 : evP .e (.ixStr (.c (.s s)) (.c (.i .i64 0))) = some (bv (s.getD 0 0)) := qgl (show 0 < s.length by omega)
 simp only [i0, oS, iS, cp0 (qhf (ro := ro) (h := h) hb), pS, cp0 (bud72 a vok hx), bS]
 cases hbud : isBud z (ix (s.getD 0 0))
 ·have e1 : errU z s = 10 := by unfold errU; rw [if_neg (by simp [hv]), if_pos ⟨h1, hh⟩, hbud]; rfl
  have e5 : ¬ (10 : Int) = 0 := by decide
  simp only [nF, cT, e1, if_neg e5, tA3]
  exact qbe rfl
 ·have e1 : errU z s = 0 := by unfold errU; rw [if_neg (by simp [hv]), if_pos ⟨h1, hh⟩, hbud]; rfl
  simp only [nT, cF, e1, if_true, tA3]
  exact qbe (by simp [AVal.bel, bels, S_bel a])
end
end Go.Proofs.Ytfohppnelbbepaa.T
/- The endless shoot -/
open Go.Vm
set_option linter.unusedVariables false
set_option linter.unusedSectionVars false
namespace Go.Proofs.Ytfohppnelbbepaa.T
open Go
variable [Ovr]
/- letters that die out -/
theorem qhu {z : List (List UInt8)} {y : Nat} : ∀ {s : List UInt8}, lenS z y s = 0 ↔ ∀ b ∈ s, cnt z y (ix b) = 0
 | [] => by simp [lenS, sumS]
 | b :: s => by
  have ih := qhu (z := z) (y := y) (s := s)
  have e : lenS z y (b :: s) = cnt z y (ix b) + lenS z y s := rfl
  rw [e, List.forall_mem_cons, ← ih]
  omega
theorem cnt_succ (z : List (List UInt8)) (y p : Nat) : cnt z (y + 1) p = lenS z y (z.getD p []) := rfl
theorem dead_mono {z : List (List UInt8)} : ∀ {y p : Nat}, cnt z y p = 0 → cnt z (y + 1) p = 0
 | 0, p, h => by
  have : cnt z 0 p = 1 := rfl
  omega
 | y + 1, p, h => by
  rw [cnt_succ, qhu] at h ⊢
  exact fun b hb => dead_mono (h b hb)
theorem dead_add {z : List (List UInt8)} {y p : Nat} (h : cnt z y p = 0) : ∀ k, cnt z (y + k) p = 0
 | 0 => h
 | k + 1 => dead_mono (dead_add h k)
def deads (z : List (List UInt8)) (y : Nat) : Nat → Nat
 | 0 => 0
 | n + 1 => deads z y n + if cnt z y n = 0 then 1 else 0
theorem deads_le (z : List (List UInt8)) (y : Nat) : ∀ n, deads z y n ≤ n
 | 0 => Nat.le_refl _
 | n + 1 => by have := deads_le z y n; unfold deads; split <;> omega
theorem deads_up (z : List (List UInt8)) (y : Nat) : ∀ n, deads z y n ≤ deads z (y + 1) n ∧ (deads z y n = deads z (y + 1) n → ∀ p, p < n → cnt z (y + 1) p = 0 → cnt z y p = 0)
 | 0 => ⟨Nat.le_refl _, fun _ p hp => by omega⟩
 | n + 1 => by
  obtain ⟨h1, h2⟩ := deads_up z y n
  have hm := dead_mono (z := z) (y := y) (p := n)
  unfold deads
  by_cases a : cnt z y n = 0
  ·rw [if_pos a, if_pos (hm a)]
   refine ⟨by omega, fun e p hp hd => ?_⟩
   rcases Nat.lt_or_ge p n with h | h
   ·exact h2 (by omega) p h hd
   ·obtain rfl : p = n := by omega
    exact a
  ·rw [if_neg a]
   by_cases b : cnt z (y + 1) n = 0
   ·rw [if_pos b]; exact ⟨by omega, fun e => by omega⟩
   ·rw [if_neg b]
    refine ⟨by omega, fun e p hp hd => ?_⟩
    rcases Nat.lt_or_ge p n with h | h
    ·exact h2 (by omega) p h hd
    ·obtain rfl : p = n := by omega
     exact absurd hd b
theorem dead_stop (z : List (List UInt8)) (n : Nat) : ∀ m, (∃ y, y < m ∧ ∀ p, p < n → cnt z (y + 1) p = 0 → cnt z y p = 0) ∨ m ≤ deads z m n
 | 0 => .inr (Nat.zero_le _)
 | m + 1 => by
  rcases dead_stop z n m with ⟨y, h1, h2⟩ | h
  ·exact .inl ⟨y, by omega, h2⟩
  ·obtain ⟨h1, h2⟩ := deads_up z m n
   by_cases e : deads z m n = deads z (m + 1) n
   ·exact .inl ⟨m, by omega, h2 e⟩
   ·exact .inr (by omega)
theorem dead_by {z : List (List UInt8)} (hz : VOk z) {m p : Nat} (hp : p < z.length) (h : cnt z m p = 0) : cnt z z.length p = 0 := by
 have hex : ∃ y, y ≤ z.length ∧ ∀ p, p < z.length → cnt z (y + 1) p = 0 → cnt z y p = 0 := by
  rcases dead_stop z z.length (z.length + 1) with ⟨y, h1, h2⟩ | h
  ·exact ⟨y, by omega, h2⟩
  ·have := deads_le z (z.length + 1) z.length; omega
 obtain ⟨y, hy, hst⟩ := hex
 have hall : ∀ k p, p < z.length → cnt z (y + k) p = 0 → cnt z y p = 0 := by
  intro k
  induction k with
  | zero => exact fun p _ h => h
  | succ k ih =>
   intro p hp h
   refine hst p hp ?_
   have h' : cnt z (y + k + 1) p = 0 := h
   rw [cnt_succ, qhu] at h' ⊢
   exact fun b hb => ih _ (ix_lt ((qcd.1 (hz.hh p hp)) b hb)) (h' b hb)
 rcases Nat.lt_or_ge m z.length with hm | hm
 ·have := dead_add h (z.length - m)
  rwa [show m + (z.length - m) = z.length by omega] at this
 ·have h1 : cnt z y p = 0 := hall (m - y) p hp (by rwa [show y + (m - y) = m by omega])
  have := dead_add h1 (z.length - y)
  rwa [show y + (z.length - y) = z.length by omega] at this
theorem never {z : List (List UInt8)} (hz : VOk z) {s : List UInt8} (hs : has z.length s) (h : dieY z s = none) (y : Nat) : lenS z y s ≠ 0 := by
 intro h0
 have h1 : lenS z z.length s = 0 := by
  rw [qhu] at h0 ⊢
  exact fun b hb => dead_by hz (ix_lt (qcd.1 hs b hb)) (h0 b hb)
 unfold dieY at h
 rw [List.find?_range_eq_none] at h
 have := h z.length (by omega)
 simp [h1] at this
/- the endless shoot -/
def qbi (z : List (List UInt8)) (b : Nat) : Nat → List UInt8
 | 0 => z.getD b []
 | i + 1 => qbi z b i ++ z.getD (ix ((qbi z b i).getD (i + 1) 0)) []
theorem lenS_grw1 (z : List (List UInt8)) (y : Nat) : ∀ s, lenS z y (grw z 1 s) = lenS z (y + 1) s
 | [] => rfl
 | b :: s => by
  have e : grw z 1 (b :: s) = z.getD (ix b) [] ++ grw z 1 s := rfl
  rw [e, lenS_app, lenS_grw1 z y s]
  rfl
theorem no_fix {z : List (List UInt8)} {c : UInt8} {rest Y : List UInt8} (hr : ∀ y, lenS z y rest ≠ 0) (hc : z.getD (ix c) [] = c :: rest) (h : grw z 1 (c :: Y) = c :: Y) : False := by
 have e : grw z 1 (c :: Y) = z.getD (ix c) [] ++ grw z 1 Y := rfl
 rw [e, hc, List.cons_append] at h
 have h1 : rest ++ grw z 1 Y = Y := (List.cons.inj h).2
 have h2 : ∀ n, n + lenS z n Y ≤ lenS z 0 Y := by
  intro n
  induction n with
  | zero => omega
  | succ n ih =>
   have e1 := congrArg (lenS z n) h1
   rw [lenS_app, lenS_grw1] at e1
   have := hr n
   omega
 have := h2 (lenS z 0 Y + 1)
 omega
structure BudOk (z : List (List UInt8)) (b : Nat) : Prop where
 ok : VOk z
 plt : b < z.length
 bud : isBud z b = true
theorem BudOk.is {z : List (List UInt8)} {b : Nat} (h : BudOk z b) : ∃ rest, z.getD b [] = lt b :: rest ∧ (∀ y, lenS z y rest ≠ 0) ∧ has z.length rest := by
 have hb := h.bud
 unfold isBud at hb
 simp only [Bool.and_eq_true, decide_eq_true_eq, Option.isNone_iff_eq_none] at hb
 obtain ⟨h1, h2⟩ := hb
 have hd : has z.length ((z.getD b []).drop 1) := by
  rw [qcd]
  exact fun c hc => qcd.1 (h.ok.hh b h.plt) c (List.mem_of_mem_drop hc)
 refine ⟨(z.getD b []).drop 1, ?_, never h.ok hd h2, hd⟩
 have e : z.getD b [] = (z.getD b []).take 1 ++ (z.getD b []).drop 1 := (List.take_append_drop 1 _).symm
 rw [h1] at e
 exact e
theorem qih {z : List (List UInt8)} {b : Nat} (h : BudOk z b) : ∀ i, i + 1 < (qbi z b i).length ∧ qbi z b i = grw z 1 ((qbi z b i).take (i + 1)) ∧ (qbi z b i).head? = some (lt b) ∧ has z.length (qbi z b i) := by
 obtain ⟨rest, e0, hr, hhr⟩ := h.is
 have hb6 := h.plt
 have h6 := h.ok.h6
 have eix : ix (lt b) = b := ix_lt' (by omega)
 intro i
 induction i with
 | zero =>
  have hne : rest ≠ [] := fun e => by have := hr 0; rw [e] at this; exact this rfl
  have hl : 0 < rest.length := List.length_pos_iff.2 hne
  refine ⟨?_, ?_, ?_, h.ok.hh b h.plt⟩
  ·show 0 + 1 < (z.getD b []).length
   rw [e0]; simp; omega
  ·show z.getD b [] = grw z 1 ((z.getD b []).take 1)
   rw [e0]
   show _ = z.getD (ix (lt b)) [] ++ grw z 1 []
   rw [eix, e0]
   show _ = _ ++ []
   simp
  ·show (z.getD b []).head? = _
   rw [e0]; rfl
 | succ i ih =>
  obtain ⟨h1, h2, h3, h4⟩ := ih
  have e : qbi z b (i + 1) = qbi z b i ++ z.getD (ix ((qbi z b i).getD (i + 1) 0)) [] := rfl
  have hx : ix ((qbi z b i).getD (i + 1) 0) < z.length := ix_lt (h4 (i + 1) h1)
  have e2 : qbi z b (i + 1) = grw z 1 ((qbi z b (i + 1)).take (i + 1 + 1)) := by
   rw [e, List.take_append_of_le_length (by omega), take_snoc 0 h1, qlb, ← h2]
   congr 1
   show _ = grw z 0 (z.getD (ix ((qbi z b i).getD (i + 1) 0)) []) ++ []
   rw [List.append_nil]
   rfl
  have e3 : (qbi z b (i + 1)).head? = some (lt b) := by rw [e, List.head?_append, h3]; rfl
  have e4 : has z.length (qbi z b (i + 1)) := by
   rw [e, qcd]
   intro c hc
   rcases List.mem_append.1 hc with hc | hc
   ·exact qcd.1 h4 c hc
   ·exact qcd.1 (h.ok.hh _ hx) c hc
  refine ⟨?_, e2, e3, e4⟩
  have hl : i + 2 ≤ (qbi z b (i + 1)).length := by rw [e, List.length_append]; omega
  rcases Nat.lt_or_ge (i + 1 + 1) (qbi z b (i + 1)).length with hlt | hge
  ·exact hlt
  ·exfalso
   rw [List.take_of_length_le (by omega)] at e2
   cases hs : qbi z b (i + 1) with
   | nil => rw [hs] at e3; cases e3
   | cons c Y =>
    rw [hs] at e2 e3
    have ec : c = lt b := by simpa using e3
    subst ec
    exact no_fix hr (by rw [eix]; exact e0) e2.symm
theorem shootE_up {z : List (List UInt8)} {b : Nat} (h : BudOk z b) : ∀ i, (qbi z b i).length ≤ 8 * (i + 1)
 | 0 => h.ok.h8 b h.plt
 | i + 1 => by
  have e : qbi z b (i + 1) = qbi z b i ++ z.getD (ix ((qbi z b i).getD (i + 1) 0)) [] := rfl
  have h1 := shootE_up h i
  obtain ⟨g1, -, -, g4⟩ := qih h i
  have := h.ok.h8 _ (ix_lt (g4 (i + 1) g1))
  rw [e, List.length_append]
  omega
def letE (z : List (List UInt8)) (b i : Nat) : UInt8 := (qbi z b i).getD i 0
end Go.Proofs.Ytfohppnelbbepaa.T
/- The endless shoot, letter by letter -/
open Go.Vm
set_option linter.unusedVariables false
set_option linter.unusedSectionVars false
namespace Go.Proofs.Ytfohppnelbbepaa.T
open Go
variable [Ovr]
section
variable {ro : List ABlk} {h hp : Heap}
theorem endless75 {v : AVal} {x : Int} (hv : v.cells = [v]) : callX F1 ro 75 [v, .i .i64 x] h = some (.fn 98 [] [.p (some ⟨false, h.length, 0⟩), .p (some ⟨false, h.length + 1, 0⟩)], h ++ [some (blkOf 55 [v]), some (blkOf 3 [.i .i64 x])], h.length, h.length) := by
 refine g75_ok (qav F1 ro) (Ovr.no rfl) ?_
 unfold g75
 simp only [box1 hv, pS, box1 (ro := ro) (show (AVal.i .i64 x).cells = [.i .i64 x] from rfl), oS, tA]
 have hb : (AVal.fn 98 [] [.p (some ⟨false, h.length, 0⟩), .p (some ⟨false, (h ++ [some (blkOf 55 [v])]).length, 0⟩)]).bel h.length = false := by
  have : Nat.blt h.length h.length = false := by rw [← Bool.not_eq_true, Nat.blt_eq]; omega
  simp [AVal.bel, bels, this]
 simp only [finM, gc, hb, Bool.and_false]
 simp
theorem stb_ok {l p : Nat} {c : UInt8} {s : List UInt8} : stepM ro ⟨hp, l, p⟩ (.stb 5 (.c (.s (c :: s)))) = some (.sl ⟨false, hp.length, 0⟩ (s.length + 1) .grow, ⟨hp ++ [some (blkOf 5 ((c :: s).map bv))], l, p⟩) ∧ RowG (hp ++ [some (blkOf 5 ((c :: s).map bv))]) hp.length 5 (.sl ⟨false, hp.length, 0⟩ (s.length + 1) .grow) ((c :: s).map bv) := by
 have e : (c :: s).map byteA = (c :: s).map bv := List.map_congr_left fun b _ => byteA_eq b
 refine ⟨by simp only [stepM, stepK, opd, st_stb, e, newB, St.mm], .inr ⟨hp.length, blkOf 5 ((c :: s).map bv), by simp, by simp, Nat.le_refl _, qed _ _, rfl, rfl, fun j hj => qdu 5 _ j⟩⟩
structure ConsE (ro : List ABlk) (rbk L0 Lc : Nat) (w : Nat → UInt8) (C : Nat → (Nat → Prop) → Heap → Prop) (D : (Nat → Prop) → Heap → Prop) : Prop where
 rnd : ∀ {i S K}, C i S K → i < 100000 → ∃ g K' lw lp S', qdx F1 ro rbk [.i .i64 (i : Int), bv (w i)] K = some (.b g, K', lw, lp) ∧ L0 ≤ lw ∧ L0 ≤ lp ∧ (g = true → C (i + 1) S' K') ∧ (g = false → D S' K') ∧ K.length ≤ K'.length ∧ (lp ≤ Lc ∨ ∀ j, S' j → S j) ∧ (∀ j, j < K.length → ¬ S j → K'[j]? = K[j]?) ∧ ∀ j, S' j → S j ∨ K.length ≤ j
 frame : ∀ {i S K K'}, C i S K → (∀ j, S j → K'[j]? = K[j]?) → C i S K'
 frameD : ∀ {S K K'}, D S K → (∀ j, S j → K'[j]? = K[j]?) → D S K'
 own : ∀ {i S K}, C i S K → ∀ j, S j → j < K.length
 ownD : ∀ {S K}, D S K → ∀ j, S j → j < K.length
set_option maxHeartbeats 2000000 in
theorem endless98 {z : List (List UInt8)} {b rbk rx px L0 Lc : Nat} {C : Nat → (Nat → Prop) → Heap → Prop} {D : (Nat → Prop) → Heap → Prop} {hB K0 : Heap} {rv : AVal} {S0 : Nat → Prop} (hb : BudOk z b) (R : IsS ro hB rv z) (kB : Keep hB K0)
  (h1 : Holds K0 rx [rv]) (h2 : Holds K0 px [.i .i64 (b : Int)]) (hx : ¬ S0 rx) (hS : ∀ j, j < hB.length → ¬ S0 j) (hL0 : L0 ≤ K0.length) (hLc : Lc < K0.length) (cons : ConsE ro rbk L0 Lc (letE z b) C D) (hC : C 0 S0 K0) :
  ∃ K' lw lp S', callX F1 ro 98 [.yld rbk, .p (some ⟨false, rx, 0⟩), .p (some ⟨false, px, 0⟩)] K0 = some (tupA [], K', lw, lp) ∧ L0 ≤ lw ∧ L0 ≤ lp ∧ (C 100000 S' K' ∨ D S' K') ∧ K0.length ≤ K'.length ∧ (∀ j, j < K0.length → ¬ S0 j → K'[j]? = K0[j]?) ∧ ∀ j, S' j → S0 j ∨ K0.length ≤ j := by
 obtain ⟨N, hN⟩ : ∃ N, N = K0.length := ⟨_, rfl⟩
 obtain ⟨rest, er, hr, hhr⟩ := hb.is
 have h6 := hb.ok.h6
 have hbl := hb.plt
 obtain ⟨q1, i1, i2⟩ := at_S R hbl
 have st := stb_ok (ro := ro) (hp := K0) (l := N) (p := N) (c := lt b) (s := rest)
 rw [← er] at st
 obtain ⟨s1, s2⟩ := st
 obtain ⟨K1, hK1⟩ : ∃ K1, K1 = K0 ++ [some (blkOf 5 ((z.getD b []).map bv))] := ⟨_, rfl⟩
 rw [← hK1] at s1 s2
 have lK1 : K1.length = N + 1 := by rw [hK1, hN]; simp
 have kK1 : Keep K0 K1 := by rw [hK1]; exact Keep.app _
 obtain ⟨v0, hv0⟩ : ∃ v0, v0 = AVal.sl ⟨false, K0.length, 0⟩ (rest.length + 1) .grow := ⟨_, rfl⟩
 rw [← hv0] at s1 s2
 rw [← hN] at s2
 have rxl : rx < N := by rw [hN]; exact h1.lt
 have own0 : ∀ j, S0 j → j < N := fun j hj => by rw [hN]; exact cons.own hC j hj
 -- the invariant: w is the shoot's list
 obtain ⟨I, hI⟩ : ∃ I : (Nat → Prop) → AVal → List UInt8 → Heap → Nat → Nat → Prop, I = fun S v c J a p => RowG J N 5 v (c.map bv) ∧ (∀ j, rb v = some j → ¬ S j) ∧ L0 ≤ a ∧ L0 ≤ p ∧ N ≤ J.length ∧ (p ≤ Lc ∨ ∀ j, S j → j < N) ∧ (∀ j, j < N → ¬ S0 j → J[j]? = K0[j]?) ∧ ∀ j, S j → S0 j ∨ N ≤ j := ⟨_, rfl⟩
 have kJ : ∀ {S v c J a p}, I S v c J a p → Keep hB J ∧ Holds J rx [rv] := fun {S v c J a p} g => by
  rw [hI] at g
  obtain ⟨-, -, -, -, g5, -, g7, -⟩ := g
  have := kB.1
  exact ⟨⟨by omega, fun i hi => by rw [g7 i (by omega) (hS i hi), kB.2 i hi]⟩, h1.keep (g7 rx rxl hx)⟩
 have key : ∃ r, loopX (fun s : AVal × Int × Mm => g98_b0 (qbs F1 ro) ro (.yld rbk) (.p (some ⟨false, rx, 0⟩)) s.1 s.2.1 s.2.2) (v0, 0, ⟨K1, N, N⟩) = some r ∧ ∃ S v c J a p, I S v c J a p ∧ ((C 100000 S J ∧ r = .inl ⟨J, a, p⟩) ∨ (D S J ∧ r = .inr ⟨J, a, p⟩)) := by
  refine loop_exit 100000 (fun i s => ∃ S v J a p, s = (v, (i : Int), ⟨J, a, p⟩) ∧ C i S J ∧ I S v (qbi z b (i - 1)) J a p) _ ?_ ?_ 100000 0 _ (by omega) ⟨S0, v0, K1, N, N, rfl, cons.frame hC fun j hj => kK1.2 j (by have := own0 j hj; omega), ?_⟩
  ·rintro i s hi ⟨S, v, J, a, p, rfl, hCi, hIi⟩
   obtain ⟨kB', hrx⟩ := kJ hIi
   have hlen := qih hb (i - 1)
   have hlen2 := qih hb i
   have hup := shootE_up hb i
   have reg : ∃ v5 J5 a5 p5,
     cond (ltI 0 (i : Int)) (
      bindO (some (Mm.base ⟨J, a, p⟩)) fun m_3 =>
      bindO (ldA ro (Mm.h ⟨J, a, p⟩) true 1 (.p (some ⟨false, rx, 0⟩))) fun v18 =>
      bindO (evP .e (.ixS 1 (.c v) (.c (.i .i64 (i : Int))))) fun v21 =>
      bindO (ldM ro m_3 true 1 v21) fun v22 =>
      asI .u8 v22 fun x22 =>
      bindP (callM (callX F1 ro) m_3 54 [(.i .u8 x22)]) fun v23 m_4 =>
      asI .i64 v23 fun x23 =>
      chk (!Nat.blt m_4.lw (Mm.h ⟨J, a, p⟩).length) <|
      bindO (evP .e (.ixS 1 (.c v18) (.c (.i .i64 x23)))) fun v24 =>
      bindO (ldM ro m_4 true 1 v24) fun v25 =>
      asS v25 fun s25 =>
      bindP (stepM ro m_4 (.app 5 1 1 [(AVal.i IntKind.u8 0)] (.c v) (.c (.s s25)))) fun v26 m_5 =>
      bindO (some (Mm.join ⟨J, a, p⟩ m_5)) fun m_6 =>
      some (v26, m_6)) (
      some (v, ⟨J, a, p⟩)) = some (v5, ⟨J5, a5, p5⟩) ∧ C i S J5 ∧ I S v5 (qbi z b i) J5 a5 p5 := by
    rcases Nat.eq_zero_or_pos i with rfl | hi0
    ·refine ⟨v, J, a, p, by simp only [show ((0 : Nat) : Int) = 0 from rfl, ltF (Int.lt_irrefl 0), cF, oS], hCi, hIi⟩
    ·obtain ⟨i', rfl⟩ : ∃ i', i = i' + 1 := ⟨i - 1, by omega⟩
     rw [Nat.add_sub_cancel] at hIi hlen
     obtain ⟨l1, l2, l3, l4⟩ := hlen
     rw [hI] at hIi
     obtain ⟨g1, g2, g3, g4, g5, g6, g7, g8⟩ := hIi
     have hbl' := l4 (i' + 1) l1
     have hxl := ix_lt hbl'
     obtain ⟨p1, u1, u2⟩ := at_R (ro := ro) (g1.isR (enc := bv)) (i := i' + 1) (x := (qbi z b i').getD (i' + 1) 0) (by simp [List.getD, l1])
     obtain ⟨p2, y1, y2⟩ := at_S R hxl
     have e : qbi z b (i' + 1) = qbi z b i' ++ z.getD (ix ((qbi z b i').getD (i' + 1) 0)) [] := rfl
     have ld := (hrx.ld (ro := ro) (k := 0) rfl 0 0).2
     obtain ⟨v', J', l', p', a1, a2, a3, a4, a5, a6, a7, a8⟩ := g1.pushS (ro := ro) (l := J.length) (p := J.length) (t := z.getD (ix ((qbi z b i').getD (i' + 1) 0)) []) g5 (by rw [e, List.length_append] at hup; omega)
     obtain ⟨b1, b2⟩ := a5 N (Nat.le_refl _) g5 g5
     refine ⟨v', J', min a l', min p p', ?_, ?_, ?_⟩
     ·have ld' : ldA ro J true 1 (.p (some ⟨false, rx, 0⟩)) = some rv := ld
      simp only [ltT (show (0 : Int) < ((i' + 1 : Nat) : Int) by omega), cT, baseL, oS, ld', u1, (u2 (Keep.refl J)).1, iS, cp0 (qhf (ro := ro) (h := J) hbl'), pS, chkL (Nat.le_refl J.length), ckT, y1, (y2 kB').1, sS, a1]
      rfl
     ·refine cons.frame hCi fun j hj => a4 j (cons.own hCi j hj) fun hv => g2 j hv hj
     ·rw [hI]
      refine ⟨?_, ?_, by omega, by omega, by omega, ?_, ?_, g8⟩
      ·rw [e]; exact a2
      ·intro j hj
       rcases a8 with ⟨-, e1, -⟩ | e1
       ·rw [e1] at hj; exact g2 j hj
       ·rw [e1] at hj
        intro hSj
        have := cons.own hCi j hSj
        have : J.length = j := by simpa using hj
        omega
      ·rcases g6 with g | g
       ·exact .inl (by omega)
       ·exact .inr g
      ·intro j hj hnj
       rw [a4 j (by omega) fun hv => by have := (g1.holds hv).2.1; omega, g7 j hj hnj]
   obtain ⟨v5, J5, a5, p5, r1, r2, r3⟩ := reg
   have r1' := r1
   obtain ⟨kB5, -⟩ := kJ r3
   have r3' := r3
   rw [hI] at r3
   obtain ⟨g1, g2, g3, g4, g5, g6, g7, g8⟩ := r3
   obtain ⟨p1, u1, u2⟩ := at_R (ro := ro) (g1.isR (enc := bv)) (i := i) (x := letE z b i) (by
    have : i < (qbi z b i).length := by have := hlen2.1; omega
    simp [letE, List.getD, this])
   obtain ⟨g, K', lw, lp, S', t1, t2, t3, t4, t5, t6, t7, t8, t9⟩ := cons.rnd r2 hi
   have hcy : qjp (callX F1 ro) (qdx F1 ro) ⟨J5, a5, p5⟩ (.yld rbk) [.i .i64 (i : Int), bv (letE z b i)] = some (.b g, ⟨K', min a5 lw, min p5 lp⟩) := by simp only [qjp, t1]
   have inv : I S' v5 (qbi z b i) K' (min a5 lw) (min p5 lp) := by
    rw [hI]
    refine ⟨g1.by fun j hj => t8 j (g1.holds hj).1.lt (g2 j hj), fun j hj hS' => ?_, by omega, by omega, by omega, ?_, fun j hj hnj => ?_, fun j hj => ?_⟩
    ·rcases t9 j hS' with h | h
     ·exact g2 j hj h
     ·have := (g1.holds hj).1.lt; omega
    ·rcases t7 with h | h
     ·exact .inl (by omega)
     ·rcases g6 with g6 | g6
      ·exact .inl (by omega)
      ·exact .inr fun j hj => g6 j (h j hj)
    ·rw [t8 j (by omega) fun hSj => by rcases g8 j hSj with h | h; exact hnj h; omega, g7 j hj hnj]
    ·rcases t9 j hj with h | h
     ·exact g8 j h
     ·exact .inr (by omega)
   have body : g98_b0 (qbs F1 ro) ro (.yld rbk) (.p (some ⟨false, rx, 0⟩)) v (i : Int) ⟨J, a, p⟩ = (if g = true then some (.inl (v5, ((i + 1 : Nat) : Int), ⟨K', min a5 lw, min p5 lp⟩)) else some (.inr (.inr ⟨K', min a5 lw, min p5 lp⟩))) := by
    unfold g98_b0
    simp only [fB, ltT (show (i : Int) < 100000 by omega), cT, mC, mR]
    rw [r1, oS]
    simp only [u1, oS, (u2 (Keep.refl J5)).1, iS, hcy, pS, bS]
    cases g
    ·simp only [nF, cT]; rfl
    ·simp only [nT, cF, fI', nx (show i ≤ 1000000 by omega)]; rfl
   cases g with
   | true => exact .inl ⟨_, by rw [body, if_pos rfl], S', v5, K', _, _, rfl, t4 rfl, by rw [Nat.add_sub_cancel]; exact inv⟩
   | false => exact .inr ⟨_, by rw [body, if_neg (by decide)], S', v5, _, K', _, _, inv, .inr ⟨t5 rfl, rfl⟩⟩
  ·rintro s ⟨S, v, J, a, p, rfl, hCi, hIi⟩
   exact ⟨_, (by simp only [g98_b0, fB, ltF (show ¬ ((100000 : Nat) : Int) < 100000 by omega), cF] <;> rfl), S, v, _, J, a, p, hIi, .inl ⟨hCi, rfl⟩⟩
  ·rw [hI]
   refine ⟨s2, fun j hj hSj => ?_, by omega, by omega, by omega, .inr own0, fun j hj _ => kK1.2 j (by omega), fun j hj => .inl hj⟩
   have := own0 j hSj
   rw [hv0] at hj
   have : K0.length = j := by simpa [rb] using hj
   omega
 obtain ⟨r, q1', S, v, c, J, a, p, hIi, hr'⟩ := key
 rw [hI] at hIi
 obtain ⟨g1, g2, g3, g4, g5, g6, g7, g8⟩ := hIi
 have fin : ∃ K2 lw2 lp2, finM K0.length (.tup []) ⟨J, a, p⟩ = some (.tup [], K2, lw2, lp2) ∧ L0 ≤ lw2 ∧ L0 ≤ lp2 ∧ K0.length ≤ K2.length ∧ (∀ j, S j → K2[j]? = J[j]?) ∧ ∀ j, j < N → K2[j]? = J[j]? := by
  unfold finM gc
  by_cases hc : (Nat.ble K0.length p && (AVal.tup []).bel K0.length) = true
  ·have hc2 := hc
   simp only [Bool.and_eq_true, Nat.ble_eq] at hc2
   have hSN : ∀ j, S j → j < N := by rcases g6 with h | h; omega; exact h
   have tk : ∀ j, j < N → (J.take K0.length)[j]? = J[j]? := fun j hj => by rw [List.getElem?_take, if_pos (by omega)]
   exact ⟨J.take K0.length, _, _, by simp only [hc, if_true]; rfl, by omega, by omega, by simp; omega, fun j hj => tk j (hSN j hj), tk⟩
  ·exact ⟨J, _, _, by simp only [hc]; rfl, by omega, by omega, by omega, fun _ _ => rfl, fun _ _ => rfl⟩
 obtain ⟨K2, lw2, lp2, f1, f2, f3, f4, f5, f6⟩ := fin
 refine ⟨K2, lw2, lp2, S, g98_ok (qav F1 ro) (Ovr.no rfl) ?_, f2, f3, ?_, f4, fun j hj hnj => by rw [f6 j (by omega), g7 j (by omega) hnj], fun j hj => by rw [← hN]; exact g8 j hj⟩
 ·have d1 := h1.ld1 (ro := ro) N N
  have d2 := h2.ld1 (ro := ro) N N
  unfold g98
  rw [← hN] at f1 ⊢
  simp only [d1, d2, oS, iS, i1, (i2 kB).1, sS, s1, pS, qaw, q1', tA0]
  rcases hr' with ⟨-, rfl⟩ | ⟨-, rfl⟩ <;> exact f1
 ·rcases hr' with ⟨hh, -⟩ | ⟨hh, -⟩
  ·exact .inl (cons.frame hh f5)
  ·exact .inr (cons.frameD hh f5)
end
end Go.Proofs.Ytfohppnelbbepaa.T
/- Windows, maps -/
open Go.Vm
set_option linter.unusedVariables false
set_option linter.unusedSectionVars false
namespace Go.Proofs.Ytfohppnelbbepaa.T
open Go
variable [Ovr]
section
variable {ro : List ABlk} {h hp : Heap}
theorem win_row {L l p lo hi : Nat} {u : AVal} {s : List UInt8} (g : RowG hp L 5 u (s.map bv)) (h1 : lo < hi) (h2 : hi ≤ s.length) : ∃ w, evP .e (.slS 1 (.c u) (some (.c (.i .i64 (lo : Int)))) (some (.c (.i .i64 (hi : Int)))) none) = some w ∧ btsM ro ⟨hp, l, p⟩ w = some (.s ((s.take hi).drop lo)) := by
 rcases g with ⟨rfl, e⟩ | ⟨b, blk, rfl, g2, g3, g4, g5, g6, g7⟩
 ·have : s = [] := by simpa using e
  subst this; simp at h2; omega
 ·rw [List.length_map] at g6 g7 ⊢
  have el : ((lo : Nat) : Int) = Int.ofNat lo := rfl
  have eh : ((hi : Nat) : Int) = Int.ofNat hi := rfl
  have b1 : Nat.ble hi s.length = true := by rw [Nat.ble_eq]; exact h2
  have b2 : Nat.ble lo hi = true := by rw [Nat.ble_eq]; omega
  have hw : ((s.take hi).drop lo).length = hi - lo := by simp; omega
  have e0 : ∀ off, off = lo → blk.c.row off (hi - lo) = ((s.take hi).drop lo).map bv := fun off eo => qgg (hi - lo) off _ (by rw [List.length_map, hw]) fun j hj => by
   rw [eo, g7 (lo + j) (by omega)]
   have hj2 : lo + j < s.length := by omega
   have hj3 : lo + j < hi := by omega
   simp [List.getD, hj2, hj3, List.getElem?_take]
  have bt : ∀ off c, off = lo → btsM ro ⟨hp, l, p⟩ (.sl ⟨false, b, off⟩ (hi - lo) c) = some (.s ((s.take hi).drop lo)) := fun off c eo => by
   have e1 : rdB ro hp ⟨false, b, off⟩ = some blk := qdi g4 off
   have e2 : Nat.ble (off + (hi - lo)) blk.n = true := by rw [Nat.ble_eq]; omega
   simp only [btsM, qki, Mm.st, e1, e2, cond_true, e0 off eo, bytesA_ok, Option.map_some]
  cases lo with
  | zero =>
   refine ⟨.sl ⟨false, b, 0⟩ (hi - 0) .grow, ?_, bt 0 _ rfl⟩
   simp only [evP, qle, opd, sl_lh, el, eh, Option.map_some, qct, capB, b1, b2, cond_true]
   rfl
  | succ lo =>
   have b3 : Nat.blt (lo + 1) s.length = true := by rw [Nat.blt_eq]; omega
   refine ⟨.sl ⟨false, b, 0 + (lo + 1) * 1⟩ (hi - (lo + 1)) .any, ?_, bt _ _ (by omega)⟩
   simp only [evP, qle, opd, sl_lh, el, eh, Option.map_some, qct, capB, b1, b2, b3, cond_true]
def wrd (z : List (List UInt8)) (b n : Nat) : List UInt8 := (List.range n).map (letE z b)
theorem wrd_succ (z : List (List UInt8)) (b n : Nat) : wrd z b (n + 1) = wrd z b n ++ [letE z b n] := by unfold wrd; rw [List.range_succ, List.map_append]; rfl
def MapAt (K : Heap) (b : Nat) (ks : List (List UInt8)) : Prop := ∃ blk : ABlk, lget K b = some (some blk) ∧ blk.g = some (.mp (ks.map fun k => (k, AVal.b true)))
def addK {α : Type} [DecidableEq α] (ks : List α) (s : α) : List α := if s ∈ ks then ks else ks ++ [s]
theorem eqL_dec (s t : List UInt8) : eqL s t = decide (s = t) := by
 have := strEq (s := s) (t := t)
 simp only [evP, qit, opd, sOp, Option.some.injEq, AVal.b.injEq] at this
 exact this
theorem mput_add (s : List UInt8) : ∀ ks : List (List UInt8), mput (ks.map fun k => (k, AVal.b true)) s (.b true) = (addK ks s).map fun k => (k, AVal.b true)
 | [] => rfl
 | k :: ks => by
  have ih := mput_add s ks
  show cond (eqL k s) ((k, AVal.b true) :: ks.map _) ((k, AVal.b true) :: mput (ks.map _) s (.b true)) = _
  rw [eqL_dec, ih]
  unfold addK
  by_cases e : k = s
  ·subst e
   simp
  ·have e' : ¬ s = k := fun h => e h.symm
   by_cases e2 : s ∈ ks
   ·simp [e, e2]
   ·simp [e, e', e2]
theorem MapAt.up {K : Heap} {b l p : Nat} {ks : List (List UInt8)} {s : List UInt8} (a : MapAt K b ks) : ∃ K', stepM ro ⟨K, l, p⟩ (.mup (.c (.mp b)) (.c (.s s)) (.c (.b true))) = some (und, ⟨K', min l b, p⟩) ∧ MapAt K' b (addK ks s) ∧ K'.length = K.length ∧ ∀ i, i ≠ b → K'[i]? = K[i]? := by
 obtain ⟨blk, g1, g2⟩ := a
 refine ⟨K.set b (some { blk with g := some (.mp ((addK ks s).map fun k => (k, AVal.b true))) }), ?_, ⟨_, qfs g1 _, rfl⟩, by simp, fun i hi => List.getElem?_set_ne (Ne.symm hi)⟩
 have hsc : (AVal.b true).scalar = true := rfl
 simp only [stepM, stepK, opd, st_mup, g1, g2, hsc, cond_true, mput_add, qby, St.mm]
theorem MapAt.len {K : Heap} {b l p : Nat} {ks : List (List UInt8)} (a : MapAt K b ks) : stepM ro ⟨K, l, p⟩ (.mln (.c (.mp b))) = some (.i .i64 (ks.length : Int), ⟨K, l, p⟩) := by
 obtain ⟨blk, g1, g2⟩ := a
 simp only [stepM, stepK, opd, st_mln, g1, g2, qbu, St.mm, List.length_map]
theorem mkm_ok {K : Heap} {l p : Nat} : ∃ K', stepM ro ⟨K, l, p⟩ .mkm = some (.mp K.length, ⟨K', l, p⟩) ∧ MapAt K' K.length [] ∧ Keep K K' ∧ K'.length = K.length + 1 :=
 ⟨K ++ [some { e := 0, n := 0, c := .e, g := some (.mp []) }], by simp only [stepM, stepK, st_mkm, St.mm], ⟨_, qed _ _, rfl⟩, Keep.app _, by simp⟩
def winsF (s : List UInt8) (n : Nat) : Nat → List (List UInt8)
 | 0 => []
 | k + 1 => winsF s n k ++ [(s.take (n + k)).drop k]
def factN (z : List (List UInt8)) (b n : Nat) : Nat := ((winsF (wrd z b 100000) n (100001 - n)).foldl addK []).length
end
end Go.Proofs.Ytfohppnelbbepaa.T
/- Factors -/
open Go.Vm
set_option linter.unusedVariables false
set_option linter.unusedSectionVars false
namespace Go.Proofs.Ytfohppnelbbepaa.T
open Go
variable [Ovr]
noncomputable def factV (z : List (List UInt8)) (s : List UInt8) (x : Int) : Int × Int := if errU z s ≠ 0 then (0, errU z s) else if x < 1 ∨ 10 < x then (0, 2) else ((factN z (ix (s.getD 0 0)) x.toNat : Int), 0)
section
variable {ro : List ABlk} {h hp : Heap}
set_option maxHeartbeats 2000000 in
theorem factors38 {v : AVal} {z : List (List UInt8)} {s : List UInt8} {x : Int} (a : IsS ro h v z) (hz : z.length ≤ 1000000) (hf : ∀ i, i < z.length → (z.getD i []).length ≤ 1000000) (hs : s.length ≤ 1000000) :
  callX F1 ro 38 [v, .s s, .i .i64 x] h = some (.tup [.i .i64 (factV z s x).1, .i .i64 (factV z s x).2], h, h.length, h.length) := by
 refine g38_ok (qav F1 ro) (Ovr.no rfl) ?_
 unfold g38
 have c74 := readBud74 (ro := ro) (h := h) a hz hf hs
 simp only [mC, cp0 c74, pS, x0, x1, x2, oS, iS, fB]
 by_cases he : errU z s = 0
 rotate_left
 ·have e1 : factV z s x = (0, errU z s) := by unfold factV; rw [if_pos he]
  simp only [qfa he, nF, cT, e1, tA2]
  exact qbx rfl rfl
 obtain ⟨vok, hs1, hhs, hbud⟩ := errU_ok he
 simp only [he, qds, nT, cF, if_true]
 by_cases hx1 : x < 1
 ·have e1 : factV z s x = (0, 2) := by unfold factV; rw [if_neg (by simp [he]), if_pos (.inl hx1)]
  simp only [ltT hx1, cT, oS, e1, tA2]
  exact qbx rfl rfl
 by_cases hx2 : 10 < x
 ·have e1 : factV z s x = (0, 2) := by unfold factV; rw [if_neg (by simp [he]), if_pos (.inr hx2)]
  simp only [ltF hx1, cF, ltT hx2, cT, oS, e1, tA2]
  exact qbx rfl rfl
 obtain ⟨n, rfl⟩ : ∃ n : Nat, x = (n : Int) := ⟨x.toNat, by omega⟩
 obtain ⟨b, hb⟩ : ∃ b, b = ix (s.getD 0 0) := ⟨_, rfl⟩
 have hBud : BudOk z b := ⟨vok, by rw [hb]; exact ix_lt (hhs 0 (by omega)), by rw [hb]; exact hbud⟩
 have e1 : factV z s (n : Int) = ((factN z b n : Int), 0) := by
  unfold factV
  rw [if_neg (by simp [he]), if_neg (by omega), Int.toNat_natCast, hb]
 rw [← hb, e1]
 simp only [ltF hx1, cF, ltF hx2, oS]
 obtain ⟨N, hN⟩ : ∃ N, N = h.length := ⟨_, rfl⟩
 have b1 := al_ok (ro := ro) (hp := h) (l := N) (p := N) 52 [AVal.nsl]
 obtain ⟨H1, hH1⟩ : ∃ H1, H1 = h ++ [some (blkOf 52 [AVal.nsl])] := ⟨_, rfl⟩
 rw [← hH1, ← hN] at b1
 have l1 : H1.length = N + 1 := by rw [hH1, hN]; simp
 have k1 : Keep h H1 := by rw [hH1]; exact Keep.app _
 have o1 : Holds H1 N [.nsl] := by rw [hH1, hN]; exact Holds.new _ _ _
 have c75 := endless75 (ro := ro) (h := H1) (v := v) (x := (b : Int)) (cells_S a)
 obtain ⟨H2, hH2⟩ : ∃ H2, H2 = H1 ++ [some (blkOf 55 [v]), some (blkOf 3 [.i .i64 (b : Int)])] := ⟨_, rfl⟩
 rw [← hH2] at c75
 have l2 : H2.length = N + 3 := by rw [hH2]; simp [l1]
 have k2 : Keep H1 H2 := by rw [hH2]; exact Keep.app _
 have nb : ∀ (j e : Nat) (x : AVal), (∀ blk, blk = blkOf e [x] → H2[N + 1 + j]? = some (some blk)) → Holds H2 (N + 1 + j) [x] := fun j e x hx => ⟨blkOf e [x], by rw [qbk]; exact hx _ rfl, rfl, fun i _ => qdu e [x] i⟩
 have x0' : Holds H2 (N + 1 + 0) [v] := nb 0 55 v fun blk e => by rw [e, hH2, List.getElem?_append_right (by omega)]; simp [l1]
 have x1' : Holds H2 (N + 1 + 1) [.i .i64 (b : Int)] := nb 1 3 _ fun blk e => by rw [e, hH2, List.getElem?_append_right (by omega)]; simp [l1]
 rw [l1] at c75
 have one : ∀ t, g38_P0 (.p (some ⟨false, N, 0⟩)) t → ∃ K' lw lp, callX F1 ro 98 [.yld (N + 3), .p (some ⟨false, N + 1, 0⟩), .p (some ⟨false, N + 1 + 1, 0⟩)] (H2 ++ [some (recB t [35, 36] k38a0 k38c0)]) = some (tupA [], K', lw, lp) ∧ N ≤ lw ∧ N ≤ lp ∧ Keep h K' ∧ RecAt K' (N + 3) ⟨t, [35, 36], k38a0, k38c0⟩ .ready none ∧ ∃ u, Holds K' N [u] ∧ RowG K' (N + 4) 5 u ((wrd z b 100000).map bv) := fun t ht => by
  obtain ⟨K0, hK0⟩ : ∃ K0, K0 = H2 ++ [some (recB t [35, 36] k38a0 k38c0)] := ⟨_, rfl⟩
  have lK : K0.length = N + 4 := by rw [hK0]; simp [l2]
  have kK : Keep H2 K0 := by rw [hK0]; exact Keep.app _
  have rK : RecAt K0 (N + 3) ⟨t, [35, 36], k38a0, k38c0⟩ .ready none := ⟨recB t [35, 36] k38a0 k38c0, by rw [hK0, ← l2]; exact qed _ _, rfl⟩
  obtain ⟨C, hC⟩ : ∃ C : Nat → (Nat → Prop) → Heap → Prop, C = fun i S K => N + 4 ≤ K.length ∧ ∃ u, Holds K N [u] ∧ RowG K (N + 4) 5 u ((wrd z b i).map bv) ∧ RecAt K (N + 3) ⟨t, [35, 36], k38a0, k38c0⟩ .ready none ∧ ∀ j, S j ↔ j = N ∨ j = N + 3 ∨ rb u = some j := ⟨_, rfl⟩
  have cons : ConsE ro (N + 3) N N (letE z b) C (fun _ _ => False) := by
   refine ⟨fun {i S K} hc hi => ?_, fun {i S K K'} hc hf => ?_, fun {S K K'} hc _ => hc, fun {i S K} hc j hj => ?_, fun {S K} hc => hc.elim⟩
   ·rw [hC] at hc
    obtain ⟨hK, u, g1, g2, g3, g4⟩ := hc
    obtain ⟨blk, e1, e2⟩ := g3
    obtain ⟨Ka, q1, q2, q3, q4⟩ := RecAt.begin (⟨blk, e1, e2⟩ : RecAt K (N + 3) ⟨t, [35, 36], k38a0, k38c0⟩ .ready none)
    have ga : Holds Ka N [u] := g1.keep (q4 _ (by omega))
    have gr : RowG Ka (N + 4) 5 u ((wrd z b i).map bv) := g2.by fun b' hb' => q4 _ (by have := (g2.holds hb').2.1; omega)
    have hwl : (wrd z b i).length = i := by simp [wrd]
    obtain ⟨K2, K3, l', p', s1, s2, g4', n2, n3, o3, b3, b5, b6⟩ := gr.push (ro := ro) (l := min K.length (N + 3)) (p := K.length) (bytes := 1) (z := AVal.i IntKind.u8 0) (w := bv (letE z b i)) (by omega) (by rw [List.length_map]; omega) (by omega) rfl rfl
    have hNu : rb u ≠ some N := fun e => by have := (g2.holds e).2.1; omega
    obtain ⟨K4, t1, t2, t3, t4⟩ := (ga.keep (o3 N (by omega) hNu)).set1 (ro := ro) (w := .sl ⟨false, Ka.length + 1, 0⟩ (((wrd z b i).map bv).length + 1) .grow) rfl rfl
    have t1' := t1 l' p'
    rw [show nonp [AVal.sl ⟨false, Ka.length + 1, 0⟩ (((wrd z b i).map bv).length + 1) .grow] = false from rfl, cond_false] at t1'
    have rec4 : RecAt K4 (N + 3) ⟨t, [35, 36], k38a0, k38c0⟩ .busy none := (q2.keep (o3 _ (by omega) fun e => by have := (g2.holds e).2.1; omega)).keep (t4 _ (by omega))
    obtain ⟨K5, w1, w2, w3, w4⟩ := rec4.done .norm
    have b3' := b3 N (by omega) (by omega) (by omega)
    have hgc : gc K.length (.b AExit.norm.on) ⟨.e, K5, min (min l' N) (N + 3), min p' N⟩ = (.b true, K5, min (min l' N) (N + 3), min p' N) := by
     have : (Nat.ble K.length (min p' N) && (AVal.b AExit.norm.on).bel K.length) = false := by
      rw [Bool.and_eq_false_iff]; left
      rw [← Bool.not_eq_true, Nat.ble_eq]; omega
     simp only [gc, this]
     rfl
    refine ⟨true, K5, min (min l' N) (N + 3), min p' N, fun j => j = N ∨ j = N + 3 ∨ j = Ka.length + 1, g38_r0_ok (qav F1 ro) e1 e2 ht ?_, by omega, by omega, fun _ => ?_, fun e => (by cases e), by omega, .inl (by omega), fun j hj hn => ?_, fun j hj => ?_⟩
    ·unfold g38_r0
     simp only [q1, oS, ga.ld1, s1, pS, s2, t1', w1, hgc]
    ·rw [hC]
     refine ⟨by omega, _, t2.keep (w4 _ (by omega)), ?_, w2, fun j => ?_⟩
     ·rw [wrd_succ, List.map_append]
      exact g4'.by fun b' hb' => by
       have e5 : Ka.length + 1 = b' := by simpa [rb] using hb'
       rw [w4 _ (by omega), t4 _ (by omega)]
     ·simp only [rb, Option.some.injEq]
      constructor
      ·rintro (h | h | h)
       ·exact .inl h
       ·exact .inr (.inl h)
       ·exact .inr (.inr h.symm)
      ·rintro (h | h | h)
       ·exact .inl h
       ·exact .inr (.inl h)
       ·exact .inr (.inr h.symm)
    ·have hn' := fun h => hn ((g4 j).2 h)
     have h1 : j ≠ N := fun e => hn' (.inl e)
     have h2 : j ≠ N + 3 := fun e => hn' (.inr (.inl e))
     have h3 : rb u ≠ some j := fun e => hn' (.inr (.inr e))
     rw [w4 j h2, t4 j h1, o3 j (by omega) h3, q4 j h2]
    ·rcases hj with h | h | h
     ·exact .inl ((g4 j).2 (.inl h))
     ·exact .inl ((g4 j).2 (.inr (.inl h)))
     ·exact .inr (by omega)
   ·rw [hC] at hc ⊢
    obtain ⟨hK, u, g1, g2, g3, g4⟩ := hc
    have n1 := hf N ((g4 N).2 (.inl rfl))
    have n2 := hf (N + 3) ((g4 _).2 (.inr (.inl rfl)))
    have r3 := g3.keep n2
    have r1 := g1.keep n1
    exact ⟨by have := r3.lt; omega, u, r1, g2.by fun b' hb' => hf _ ((g4 _).2 (.inr (.inr hb'))), r3, g4⟩
   ·rw [hC] at hc
    obtain ⟨hK, u, g1, g2, g3, g4⟩ := hc
    rcases (g4 j).1 hj with h | h | h
    ·omega
    ·omega
    ·exact (g2.holds h).1.lt
  have hC0 : C 0 (fun j => j = N ∨ j = N + 3) K0 := by
   rw [hC]
   exact ⟨by omega, .nsl, (o1.by k2).by kK, RowG.nil _ _ _, rK, fun j => by simp [rb]⟩
  obtain ⟨K', lw, lp, S', t1, t2, t3, t4, t5, t6, t7⟩ := endless98 (ro := ro) (z := z) (b := b) (rbk := N + 3) (rx := N + 1) (px := N + 1 + 1) (L0 := N) (Lc := N) (hB := h) (K0 := K0) (S0 := fun j => j = N ∨ j = N + 3) hBud a ((k1.trans k2).trans kK) (x0'.by kK) (x1'.by kK) (by omega) (fun j hj => by omega) (by omega) (by omega) cons hC0
  rcases t4 with t4 | t4
  ·rw [hC] at t4
   obtain ⟨hK, u, g1, g2, g3, g4⟩ := t4
   refine ⟨K', lw, lp, by rw [← hK0]; exact t1, t2, t3, ⟨by omega, fun i hi => ?_⟩, g3, u, g1, g2⟩
   rw [t6 i (by omega) (by omega), kK.2 i (by omega), k2.2 i (by omega), k1.2 i hi]
  ·exact t4.elim
 have c75' := callM_of (a := N) (b := N) c75
 rw [show min N (N + 1) = N by omega] at c75'
 simp only [← hN, b1, pS, mC, c75']
 refine rngK_eq (t := Tr.e.set 11 (.p (some ⟨false, N, 0⟩))) ⟨trivial, by simp⟩ fun t ht => ?_
 obtain ⟨K', lw, lp, t1, t2, t3, t4, t5, u, g1, g2⟩ := one t ht
 have hN5 : N + 3 < K'.length := t5.lt
 have e2 := t5.ended (by decide)
 have kJ : Keep h (lset none K' (N + 3)) := by rw [qby]; exact t4.set (by omega) none
 obtain ⟨J, hJ⟩ : ∃ J, J = lset none K' (N + 3) := ⟨_, rfl⟩
 have lJ : J.length = K'.length := by rw [hJ, qby]; simp
 have o1' : Holds J N [u] := g1.keep (by rw [hJ, qby]; exact List.getElem?_set_ne (by omega))
 have o2' : RowG J (N + 4) 5 u ((wrd z b 100000).map bv) := g2.by fun b' hb' => by rw [hJ, qby]; exact List.getElem?_set_ne (by have := (g2.holds hb').2.1; omega)
 rw [← hJ] at e2 kJ
 refine ⟨(.norm, ⟨J, N, N⟩), ?_, ?_⟩
 ·unfold rngT rngA
  simp only [List.nil_append, List.cons_append, l2, t1, e2]
  show some (AExit.norm, (⟨J, min (min N lw) (N + 3), min N lp⟩ : Mm)) = _
  rw [show min (min N lw) (N + 3) = N by omega, show min N lp = N by omega]
 ·simp only [onE]
  obtain ⟨J1, m1, m2, m3, m4⟩ := mkm_ok (ro := ro) (K := J) (l := N) (p := N)
  have hwl : (wrd z b 100000).length = 100000 := by simp [wrd]
  have key : ∃ r, loopX (fun q : Int × Mm => g38_b1 (qbs F1 ro) ro (n : Int) (.p (some ⟨false, N, 0⟩)) (.mp J.length) q.1 q.2) ((n : Int), ⟨J1, N, N⟩) = some r ∧ ∃ K, r = ⟨K, N, N⟩ ∧ MapAt K J.length ((winsF (wrd z b 100000) n (100001 - n)).foldl addK []) ∧ K.length = J1.length ∧ ∀ i, i ≠ J.length → K[i]? = J1[i]? := by
   refine qbt (100001 - n) (fun k q => ∃ K, q = (((n + k : Nat) : Int), ⟨K, N, N⟩) ∧ MapAt K J.length ((winsF (wrd z b 100000) n k).foldl addK []) ∧ K.length = J1.length ∧ ∀ i, i ≠ J.length → K[i]? = J1[i]?) _ ?_ ?_ (100001 - n) 0 _ (by omega) ⟨J1, rfl, m2, rfl, fun _ _ => rfl⟩
   ·rintro k q hk ⟨K, rfl, f1, f2, f3⟩
    have kN : K[N]? = J[N]? := by rw [f3 N (by omega), m3.2 N (by omega)]
    have oN := o1'.keep kN
    have gK : RowG K (N + 4) 5 u ((wrd z b 100000).map bv) := o2'.by fun b' hb' => by
     have := (o2'.holds hb').1.lt
     rw [f3 b' (by omega), m3.2 b' (by omega)]
    have hln : evP .e (.len false (.c u)) = some (.i .i64 ((100000 : Nat) : Int)) := by
     rcases gK with ⟨-, e⟩ | ⟨b', blk, e, -⟩
     ·have := congrArg List.length e; simp [hwl] at this
     ·rw [e]
      have := qha (q := ⟨false, b', 0⟩) (n := ((wrd z b 100000).map bv).length) (c := .grow)
      rw [List.length_map, hwl] at this
      rw [List.length_map, hwl]; exact this
    obtain ⟨w, w1, w2⟩ := win_row (ro := ro) (l := N) (p := N) gK (lo := k) (hi := n + k) (by omega) (by omega)
    obtain ⟨K', y1, y2, y3, y4⟩ := f1.up (ro := ro) (l := N) (p := N) (s := ((wrd z b 100000).take (n + k)).drop k)
    rw [show min N J.length = N by omega] at y1
    have e3 : wr .i64 (((n + k : Nat) : Int) - (n : Int)) = (k : Int) := by rw [wr_id' (by omega) (by omega)]; omega
    refine ⟨_, (by simp only [g38_b1, oN.ld1, oS, hln, iS, fB, ltF (show ¬ ((100000 : Nat) : Int) < ((n + k : Nat) : Int) by omega), nF, cT, fI', e3, w1, w2, sS, y1, pS, nx (show n + k ≤ 1000000 by omega)] <;> rfl), K', rfl, ?_, by omega, fun i hi => by rw [y4 i hi, f3 i hi]⟩
    show MapAt K' J.length ((winsF (wrd z b 100000) n k ++ [_]).foldl addK [])
    rw [List.foldl_append]
    exact y2
   ·rintro q ⟨K, rfl, f1, f2, f3⟩
    have kN : K[N]? = J[N]? := by rw [f3 N (by omega), m3.2 N (by omega)]
    have oN := o1'.keep kN
    have gK : RowG K (N + 4) 5 u ((wrd z b 100000).map bv) := o2'.by fun b' hb' => by
     have := (o2'.holds hb').1.lt
     rw [f3 b' (by omega), m3.2 b' (by omega)]
    have hln : evP .e (.len false (.c u)) = some (.i .i64 ((100000 : Nat) : Int)) := by
     rcases gK with ⟨-, e⟩ | ⟨b', blk, e, -⟩
     ·have := congrArg List.length e; simp [hwl] at this
     ·rw [e]
      have := qha (q := ⟨false, b', 0⟩) (n := ((wrd z b 100000).map bv).length) (c := .grow)
      rw [List.length_map, hwl] at this
      rw [List.length_map, hwl]; exact this
    exact ⟨_, (by simp only [g38_b1, oN.ld1, oS, hln, iS, fB, ltT (show ((100000 : Nat) : Int) < ((n + (100001 - n) : Nat) : Int) by omega), nT, cF] <;> rfl), K, rfl, f1, f2, f3⟩
  obtain ⟨r, q1, K, rfl, f1, f2, f3⟩ := key
  simp only [m1, pS, qaw, q1, oS, f1.len, iS, tA2]
  have kK : Keep h K := ⟨by have := kJ.1; omega, fun i hi => by rw [f3 i (by have := kJ.1; omega), m3.2 i (by have := kJ.1; omega), kJ.2 i hi]⟩
  subst hN
  exact qce kK rfl
end
end Go.Proofs.Ytfohppnelbbepaa.T
/- Thue and Morse -/
open Go.Vm
set_option linter.unusedVariables false
set_option linter.unusedSectionVars false
namespace Go.Proofs.Ytfohppnelbbepaa.T
open Go
variable [Ovr]
/- how many different ones there are -/
section
variable {α : Type} [DecidableEq α]
theorem addK_mem {ks : List α} {s x : α} : x ∈ addK ks s ↔ x ∈ ks ∨ x = s := by
 unfold addK
 split
 ·rename_i h
  exact ⟨.inl, fun e => by rcases e with e | e; exact e; rw [e]; exact h⟩
 ·simp
theorem addK_nodup {ks : List α} {s : α} (h : ks.Nodup) : (addK ks s).Nodup := by
 unfold addK
 split
 ·exact h
 ·rename_i hn
  rw [List.nodup_append]
  exact ⟨h, by simp, fun a ha b hb e => by simp only [List.mem_singleton] at hb; rw [e, hb] at ha; exact hn ha⟩
theorem foldK : ∀ (l ks : List α), ks.Nodup → (l.foldl addK ks).Nodup ∧ ∀ x, x ∈ l.foldl addK ks ↔ x ∈ ks ∨ x ∈ l
 | [], ks, h => ⟨h, fun x => by simp⟩
 | s :: l, ks, h => by
  obtain ⟨h1, h2⟩ := foldK l (addK ks s) (addK_nodup h)
  refine ⟨h1, fun x => ?_⟩
  rw [List.foldl_cons, h2 x, addK_mem, List.mem_cons]
  constructor
  ·rintro ((h | h) | h)
   ·exact .inl h
   ·exact .inr (.inl h)
   ·exact .inr (.inr h)
  ·rintro (h | h | h)
   ·exact .inl (.inl h)
   ·exact .inl (.inr h)
   ·exact .inr h
theorem nodup_le : ∀ {l m : List α}, l.Nodup → (∀ x ∈ l, x ∈ m) → l.length ≤ m.length
 | [], m, _, _ => Nat.zero_le _
 | a :: l, m, h, hs => by
  rw [List.nodup_cons] at h
  have ha := hs a List.mem_cons_self
  have := nodup_le (l := l) (m := m.erase a) h.2 fun x hx => (List.mem_erase_of_ne (fun e => by rw [e] at hx; exact h.1 hx)).2 (hs x (List.mem_cons_of_mem _ hx))
  have e := List.length_erase_of_mem ha
  have : 0 < m.length := List.length_pos_of_mem ha
  simp only [List.length_cons]
  omega
theorem dis_eq {l m : List α} (hm : m.Nodup) (h : ∀ x, x ∈ l ↔ x ∈ m) : (l.foldl addK []).length = m.length := by
 obtain ⟨h1, h2⟩ := foldK l [] List.nodup_nil
 refine Nat.le_antisymm (nodup_le h1 fun x hx => ?_) (nodup_le hm fun x hx => ?_)
 ·rcases (h2 x).1 hx with h' | h'
  ·cases h'
  ·exact (h x).1 h'
 ·exact (h2 x).2 (.inr ((h x).2 hx))
end
theorem winsF_mem {s w : List UInt8} {n : Nat} : ∀ {m : Nat}, w ∈ winsF s n m ↔ ∃ k, k < m ∧ w = (s.take (n + k)).drop k
 | 0 => ⟨fun h => (by cases h), fun ⟨k, h, _⟩ => (by omega)⟩
 | m + 1 => by
  show w ∈ winsF s n m ++ [_] ↔ _
  rw [List.mem_append, winsF_mem, List.mem_singleton]
  constructor
  ·rintro (⟨k, h1, h2⟩ | h)
   ·exact ⟨k, by omega, h2⟩
   ·exact ⟨m, by omega, h⟩
  ·rintro ⟨k, h1, h2⟩
   by_cases e : k = m
   ·subst e; exact .inr h2
   ·exact .inl ⟨k, by omega, h2⟩
theorem wrd_take {z : List (List UInt8)} {b n k : Nat} (h : k ≤ n) : (wrd z b n).take k = wrd z b k := by
 unfold wrd
 rw [← List.map_take, List.take_range, Nat.min_eq_left h]
theorem wrd_win (z : List (List UInt8)) (b k : Nat) : ∀ m, (wrd z b (k + m)).drop k = (List.range m).map fun j => letE z b (k + j)
 | 0 => by rw [List.drop_of_length_le (by simp [wrd])]; rfl
 | m + 1 => by
  rw [← Nat.add_assoc, wrd_succ, List.drop_append_of_le_length (by simp [wrd]), wrd_win z b k m, List.range_succ, List.map_append]
  rfl
/- the word of Thue and Morse -/
theorem qig (z : List (List UInt8)) (b : Nat) {i k : Nat} (hk : k < (qbi z b i).length) : ∀ j, (qbi z b (i + j)).getD k 0 = (qbi z b i).getD k 0 ∧ k < (qbi z b (i + j)).length
 | 0 => ⟨rfl, hk⟩
 | j + 1 => by
  obtain ⟨h1, h2⟩ := qig z b hk j
  have e : qbi z b (i + j + 1) = qbi z b (i + j) ++ z.getD (ix ((qbi z b (i + j)).getD (i + j + 1) 0)) [] := rfl
  refine ⟨?_, ?_⟩
  ·show (qbi z b (i + j + 1)).getD k 0 = _
   rw [← h1, e, List.getD_eq_getElem?_getD, List.getElem?_append_left h2, ← List.getD_eq_getElem?_getD]
  ·show k < (qbi z b (i + j + 1)).length
   rw [e, List.length_append]; omega
abbrev zT : List (List UInt8) := [[97, 98], [98, 97]]
theorem zT_two {x : UInt8} (h : x = 97 ∨ x = 98) : ∃ a b : UInt8, zT.getD (ix x) [] = [a, b] ∧ a ≠ b ∧ (a = 97 ∨ a = 98) ∧ (b = 97 ∨ b = 98) := by
 rcases h with rfl | rfl
 ·exact ⟨97, 98, rfl, by decide, .inl rfl, .inr rfl⟩
 ·exact ⟨98, 97, rfl, by decide, .inr rfl, .inl rfl⟩
theorem zT_len : ∀ i, (qbi zT 0 i).length = 2 * (i + 1) ∧ ∀ x ∈ qbi zT 0 i, x = 97 ∨ x = 98
 | 0 => ⟨rfl, fun x hx => by
  have : x ∈ ([97, 98] : List UInt8) := hx
  simpa using this⟩
 | i + 1 => by
  obtain ⟨h1, h2⟩ := zT_len i
  have e : qbi zT 0 (i + 1) = qbi zT 0 i ++ zT.getD (ix ((qbi zT 0 i).getD (i + 1) 0)) [] := rfl
  have hm : (qbi zT 0 i).getD (i + 1) 0 ∈ qbi zT 0 i := by
   have : i + 1 < (qbi zT 0 i).length := by omega
   rw [List.getD_eq_getElem?_getD, List.getElem?_eq_getElem this]
   exact List.getElem_mem this
  obtain ⟨a, b, e1, -, ha, hb⟩ := zT_two (h2 _ hm)
  rw [e, e1]
  refine ⟨by rw [List.length_append, h1]; simp; omega, fun x hx => ?_⟩
  rcases List.mem_append.1 hx with hx | hx
  ·exact h2 x hx
  ·simp only [List.mem_cons, List.not_mem_nil, or_false] at hx
   rcases hx with rfl | rfl
   ·exact ha
   ·exact hb
theorem zT_let (i : Nat) : letE zT 0 i = 97 ∨ letE zT 0 i = 98 := by
 obtain ⟨h1, h2⟩ := zT_len i
 have : i < (qbi zT 0 i).length := by omega
 unfold letE
 rw [List.getD_eq_getElem?_getD, List.getElem?_eq_getElem this]
 exact h2 _ (List.getElem_mem this)
theorem zT_pair : ∀ i, letE zT 0 (2 * i) ≠ letE zT 0 (2 * i + 1)
 | 0 => by decide
 | i + 1 => by
  obtain ⟨h1, h2⟩ := zT_len i
  have e : qbi zT 0 (i + 1) = qbi zT 0 i ++ zT.getD (ix ((qbi zT 0 i).getD (i + 1) 0)) [] := rfl
  have hm : (qbi zT 0 i).getD (i + 1) 0 ∈ qbi zT 0 i := by
   have : i + 1 < (qbi zT 0 i).length := by omega
   rw [List.getD_eq_getElem?_getD, List.getElem?_eq_getElem this]
   exact List.getElem_mem this
  obtain ⟨a, b, e1, hab, -, -⟩ := zT_two (h2 _ hm)
  rw [e1] at e
  have hl := (zT_len (i + 1)).1
  have p1 := (qig zT 0 (i := i + 1) (k := 2 * (i + 1)) (by omega) (i + 1)).1
  have p2 := (qig zT 0 (i := i + 1) (k := 2 * (i + 1) + 1) (by omega) (i + 2)).1
  have q1 : letE zT 0 (2 * (i + 1)) = a := by
   unfold letE
   rw [show 2 * (i + 1) = i + 1 + (i + 1) by omega] at p1 ⊢
   rw [p1, e, List.getD_eq_getElem?_getD, List.getElem?_append_right (by omega), h1, show i + 1 + (i + 1) - 2 * (i + 1) = 0 by omega]
   rfl
  have q2 : letE zT 0 (2 * (i + 1) + 1) = b := by
   unfold letE
   rw [show 2 * (i + 1) + 1 = i + 1 + (i + 2) by omega] at p2 ⊢
   rw [p2, e, List.getD_eq_getElem?_getD, List.getElem?_append_right (by omega), h1, show i + 1 + (i + 2) - 2 * (i + 1) = 1 by omega]
   rfl
  rw [q1, q2]; exact hab
def m6 : List (List UInt8) := [[97, 98, 98], [98, 98, 97], [98, 97, 98], [97, 98, 97], [98, 97, 97], [97, 97, 98]]
theorem zT_win {k : Nat} (hk : 3 + k ≤ 100000) : ((wrd zT 0 100000).take (3 + k)).drop k = [letE zT 0 k, letE zT 0 (k + 1), letE zT 0 (k + 2)] := by
 rw [wrd_take hk, Nat.add_comm 3 k, wrd_win]; rfl
theorem factTM : factN zT 0 3 = 6 := by
 have : (6 : Nat) = m6.length := rfl
 unfold factN
 rw [this]
 refine dis_eq (by decide) fun w => ?_
 rw [winsF_mem]
 constructor
 ·rintro ⟨k, hk, rfl⟩
  rw [zT_win (by omega)]
  have a0 := zT_let k
  have a1 := zT_let (k + 1)
  have a2 := zT_let (k + 2)
  have hne : letE zT 0 k ≠ letE zT 0 (k + 1) ∨ letE zT 0 (k + 1) ≠ letE zT 0 (k + 2) := by
   rcases Nat.mod_two_eq_zero_or_one k with h | h
   ·have := zT_pair (k / 2)
    rw [show 2 * (k / 2) = k by omega] at this
    exact .inl this
   ·have := zT_pair ((k + 1) / 2)
    rw [show 2 * ((k + 1) / 2) = k + 1 by omega] at this
    exact .inr this
  generalize letE zT 0 k = x at a0 hne ⊢
  generalize letE zT 0 (k + 1) = y at a1 hne ⊢
  generalize letE zT 0 (k + 2) = w at a2 hne ⊢
  rcases a0 with rfl | rfl <;> rcases a1 with rfl | rfl <;> rcases a2 with rfl | rfl <;> first | decide | (exfalso; rcases hne with h | h <;> exact h rfl)
 ·intro hw
  have e : ∀ k, k < 6 → ((wrd zT 0 100000).take (3 + k)).drop k = m6.getD k [] := fun k hk => by
   rw [zT_win (by omega)]
   match k, hk with
   | 0, _ => decide
   | 1, _ => decide
   | 2, _ => decide
   | 3, _ => decide
   | 4, _ => decide
   | 5, _ => decide
  obtain ⟨k, hk, rfl⟩ := List.getElem_of_mem hw
  have hk6 : k < 6 := hk
  exact ⟨k, by omega, by rw [e k hk6]; simp [List.getD, hk]⟩
theorem factV_T : factV zT [97] 3 = (6, 0) := by
 have h0 : errU zT [97] = 0 := by
  have hl : ∀ s : List UInt8, s = [97, 98] ∨ s = [98, 97] ∨ s = [97] → has 2 s := fun s hs => qcd.2 fun b hb => by
   rcases hs with rfl | rfl | rfl <;> simp only [List.mem_cons, List.not_mem_nil, or_false] at hb
   ·rcases hb with rfl | rfl <;> decide
   ·rcases hb with rfl | rfl <;> decide
   ·subst hb; decide
  have hv : errV zT = 0 := by
   unfold errV
   rw [if_neg (by decide), if_pos]
   intro i hi
   match i, hi with
   | 0, _ => exact ⟨by decide, hl _ (.inl rfl)⟩
   | 1, _ => exact ⟨by decide, hl _ (.inr (.inl rfl))⟩
  unfold errU
  rw [if_neg (by simp [hv]), if_pos ⟨rfl, hl _ (.inr (.inr rfl))⟩, if_pos (by decide)]
 unfold factV
 rw [if_neg (by simp [h0]), if_neg (by decide)]
 have : factN zT (ix (([97] : List UInt8).getD 0 0)) (Int.toNat 3) = 6 := factTM
 rw [this]
 rfl
end Go.Proofs.Ytfohppnelbbepaa.T
/- alive -/
open Go.Vm
set_option linter.unusedVariables false
set_option linter.unusedSectionVars false
namespace Go.Proofs.Ytfohppnelbbepaa.T
open Go
variable [Ovr]
def isStr (v : AVal) (l : List UInt8) : Bool := match v with
 | .s s => eqL s l
 | _ => false
theorem isStr_eq {v : AVal} {l : List UInt8} (h : isStr v l = true) : v = .s l := by
 cases v with
 | s s =>
  have h' : eqL s l = true := h
  rw [eqL_dec] at h'
  simp only [decide_eq_true_eq] at h'
  rw [h']
 | _ => cases h
def knownT : qao := fun f a h => cond (Nat.beq f 38) (match a with
 | [.sl q n _, .s s, .i .i64 x] => match lget h q.b with
  | some (some blk) => cond (!q.ro && Nat.beq q.off 0 && Nat.beq n 2 && Nat.ble 2 blk.n && isStr (blk.c.get 0) [97, 98] && isStr (blk.c.get 1) [98, 97] && eqL s [97] && eqI x 3) (some (.tup [.i .i64 6, .i .i64 0], h, h.length, h.length)) none
  | _ => none
 | _ => none) none
theorem knownT_le {ro : List ABlk} {f : Nat} {a : List AVal} {h : Heap} {r : AVal × Heap × Nat × Nat} (hr : knownT f a h = some r) : callX F1 ro f a h = some r := by
 unfold knownT at hr
 cases hf : Nat.beq f 38
 ·rw [hf] at hr; cases hr
 obtain rfl : f = 38 := Nat.eq_of_beq_eq_true hf
 rw [hf, cond_true] at hr
 split at hr
 rotate_left
 ·cases hr
 rename_i q n c s x
 split at hr
 rotate_left
 ·cases hr
 rename_i blk hb
 cases hc : (!q.ro && Nat.beq q.off 0 && Nat.beq n 2 && Nat.ble 2 blk.n && isStr (blk.c.get 0) [97, 98] && isStr (blk.c.get 1) [98, 97] && eqL s [97] && eqI x 3)
 ·rw [hc] at hr; cases hr
 rw [hc, cond_true] at hr
 cases hr
 simp only [Bool.and_eq_true, Bool.not_eq_true', Nat.ble_eq] at hc
 obtain ⟨⟨⟨⟨⟨⟨⟨c1, c2⟩, c3⟩, c4⟩, c5⟩, c6⟩, c7⟩, c8⟩ := hc
 have d2 := Nat.eq_of_beq_eq_true c2
 have d3 := Nat.eq_of_beq_eq_true c3
 have c5 := isStr_eq c5
 have c6 := isStr_eq c6
 rw [eqL_dec, decide_eq_true_eq] at c7
 rw [qjn, beq_iff_eq] at c8
 subst d3 c7 c8
 obtain ⟨r, b, o⟩ := q
 simp only at c1 d2 hb
 subst c1 d2
 have hS : IsS ro h (.sl ⟨false, b, 0⟩ 2 c) zT := by
  refine .inr ⟨_, _, blk, rfl, qdi hb 0, by show 0 + 2 ≤ _; omega, fun j hj => ?_⟩
  rw [Nat.zero_add]
  match j, hj with
  | 0, _ => exact c5
  | 1, _ => exact c6
 have := factors38 (ro := ro) (h := h) (s := [97]) (x := 3) hS (by decide) (fun i hi => by match i, hi with | 0, _ => decide | 1, _ => decide) (by decide)
 rw [factV_T] at this
 exact this
abbrev FT : Tab := ⟨F, knownT⟩
def okA (o : Option (AVal × Heap × Nat × Nat)) : Bool := match o with
 | some (.b true, _, _, _) => true
 | _ => false
omit [Ovr] in
theorem okA_eq {o : Option (AVal × Heap × Nat × Nat)} (h : okA o = true) : ∃ hp lw lp, o = some (.b true, hp, lw, lp) := by
 unfold okA at h
 split at h
 ·exact ⟨_, _, _, rfl⟩
 ·cases h
omit [Ovr] in
theorem aliveS : okA (callA FT [] (exec FT [] 200) 16 [] []) = true := by decide +kernel
omit [Ovr] in
theorem aliveT : ∃ hp lw lp, callX FT [] 16 [] [] = some (.b true, hp, lw, lp) := by
 obtain ⟨hp, lw, lp, e⟩ := okA_eq aliveS
 exact ⟨hp, lw, lp, qde.2 ⟨200, e⟩⟩
section
variable {E : Env} (hE : E.Ok) (hm : E.P.follows .mixedOrders = true) (hF : FOk E.P F)
include hE hm hF
omit [Ovr] in
theorem knownT_ok : qbv E knownT := by
 letI : Ovr := ⟨noCall, fun _ => rfl⟩
 exact le_ok (qhl hE hm (F := F1) hF noCall_ok) fun f a h r hr => knownT_le hr
omit [Ovr] in
theorem alive_known : qbv E (known0 16 (.b true)) := by
 obtain ⟨hp, lw, lp, e⟩ := aliveT
 exact known0_ok (qhl (E := E.bare) (Env.bare_ok hE) hm (F := FT) hF (knownT_ok (Env.bare_ok hE) hm hF)) e rfl
end
@[reducible] def ovA : Ovr := ⟨known0 16 (.b true), fun {f a h} e => by
 unfold known0
 cases a with
 | nil => simp only [e, cond_false]
 | cons _ _ => rfl⟩
end Go.Proofs.Ytfohppnelbbepaa.T
/- At -/
open Go.Vm
set_option linter.unusedVariables false
set_option linter.unusedSectionVars false
namespace Go.Proofs.Ytfohppnelbbepaa.T
open Go
variable [Ovr]
section
variable {ro : List ABlk} {h hp : Heap}
end
end Go.Proofs.Ytfohppnelbbepaa.T
/- At of the reference -/
open Go.Vm
set_option linter.unusedVariables false
set_option linter.unusedSectionVars false
namespace Go.Proofs.Ytfohppnelbbepaa.T
open Go
variable [Ovr]
section
variable {ro : List ABlk} {h hp : Heap}
end
end Go.Proofs.Ytfohppnelbbepaa.T
/- Law 4 -/
open Go.Vm
set_option linter.unusedVariables false
set_option linter.unusedSectionVars false
namespace Go.Proofs.Ytfohppnelbbepaa.T
open Go
variable [Ovr]
section
variable {ro : List ABlk} {h hp : Heap}
end
end Go.Proofs.Ytfohppnelbbepaa.T
/- Counts of the reference -/
open Go.Vm
set_option linter.unusedVariables false
set_option linter.unusedSectionVars false
namespace Go.Proofs.Ytfohppnelbbepaa.T
open Go
variable [Ovr]
section
variable {ro : List ABlk} {h hp : Heap}
theorem qla (z : List (List UInt8)) (y : Nat) : ∀ s, grw z (y + 1) s = grw z y (grw z 1 s)
 | [] => by cases y <;> rfl
 | b :: s => by
  have e : grw z 1 (b :: s) = z.getD (ix b) [] ++ grw z 1 s := rfl
  have e2 : grw z (y + 1) (b :: s) = grw z y (z.getD (ix b) []) ++ grw z (y + 1) s := rfl
  rw [e, qlb, e2, qla z y s]
theorem grw_last (z : List (List UInt8)) : ∀ y s, grw z (y + 1) s = grw z 1 (grw z y s)
 | 0, s => rfl
 | y + 1, s => by rw [qla z (y + 1) s, grw_last z y (grw z 1 s), ← qla z y s]
theorem grw_has {z : List (List UInt8)} (hz : VOk z) : ∀ {y : Nat} {s : List UInt8}, has z.length s → has z.length (grw z y s)
 | 0, s, h => h
 | y + 1, s, h => by
  rw [qcd]
  intro c hc
  have hc' : c ∈ s.flatMap fun b => grw z y (z.getD (ix b) []) := hc
  rw [List.mem_flatMap] at hc'
  obtain ⟨b, hb, hcb⟩ := hc'
  exact qcd.1 (grw_has hz (hz.hh _ (ix_lt (qcd.1 h b hb)))) c hcb
theorem count_one {n : Nat} (hn : n ≤ 100) {b : UInt8} (hb : isL n b) {q : Nat} (hq : q < n) : (if b == lt q then 1 else 0) = if q = ix b then 1 else 0 := by
 by_cases e : q = ix b
 ·subst e
  rw [lt_ix hb hn]; simp
 ·rw [if_neg e, if_neg]
  intro e2
  have e3 : b = lt q := by simpa using e2
  rw [e3, ix_lt' (by omega)] at e
  exact e rfl
theorem count_flat {z : List (List UInt8)} {n : Nat} (hn : n ≤ 100) (c : UInt8) : ∀ {w : List UInt8}, has n w → (grw z 1 w).count c = sumT (fun q => w.count (lt q) * (z.getD q []).count c) n
 | [], _ => by
  rw [qeq (g := fun _ => 0) fun t _ => by simp, qho]; rfl
 | b :: w, h => by
  have hb : isL n b := qcd.1 h b List.mem_cons_self
  have hw : has n w := qcd.2 fun x hx => qcd.1 h x (List.mem_cons_of_mem _ hx)
  have e : grw z 1 (b :: w) = z.getD (ix b) [] ++ grw z 1 w := rfl
  rw [e, List.count_append, count_flat hn c hw]
  have e2 : sumT (fun q => (b :: w).count (lt q) * (z.getD q []).count c) n = sumT (fun q => w.count (lt q) * (z.getD q []).count c + if q = ix b then (z.getD q []).count c else 0) n := by
   refine qeq fun q hq => ?_
   rw [List.count_cons, count_one hn hb hq, Nat.add_mul]
   congr 1
   split <;> simp
  rw [e2, sumT_add, sumT_one (f := fun q => (z.getD q []).count c) (ix_lt hb)]
  omega
theorem count_take {s : List UInt8} {j p : Nat} (hj : j < s.length) {n : Nat} (hn : n ≤ 100) (hb : isL n (s.getD j 0)) (hp : p < n) : (s.take (j + 1)).count (lt p) = (s.take j).count (lt p) + if p = ix (s.getD j 0) then 1 else 0 := by
 rw [take_snoc 0 hj, List.count_append]
 congr 1
 rw [← count_one hn hb hp]
 simp [List.count_cons]
theorem sat_mulC {a b x : Nat} (h : sat a = sat b) : sat (a * x) = sat (b * x) := by
 rcases Nat.eq_zero_or_pos x with rfl | hx
 ·rw [Nat.mul_zero, Nat.mul_zero]
 ·have h1 : a ≤ a * x := Nat.le_mul_of_pos_right a hx
  have h2 : b ≤ b * x := Nat.le_mul_of_pos_right b hx
  by_cases e : a = b
  ·rw [e]
  ·unfold sat at *; omega
theorem sat_sum {f g : Nat → Nat} : ∀ {n : Nat}, (∀ t, t < n → sat (f t) = sat (g t)) → sat (sumT f n) = sat (sumT g n)
 | 0, _ => rfl
 | n + 1, h => by
  have h1 := sat_sum (f := f) (g := g) (n := n) fun t ht => h t (by omega)
  have h2 := h n (by omega)
  show sat (sumT f n + f n) = sat (sumT g n + g n)
  rw [← qkj, h1, h2, qkj]
end
end Go.Proofs.Ytfohppnelbbepaa.T
/- Buds of the reference, Endless -/
open Go.Vm
set_option linter.unusedVariables false
set_option linter.unusedSectionVars false
namespace Go.Proofs.Ytfohppnelbbepaa.T
open Go
variable [Ovr]
section
variable {ro : List ABlk} {h hp : Heap}
theorem RowG.row {L e : Nat} {v : AVal} {z : List Int} (g : RowG hp L e v (z.map (AVal.i .i64))) : IsRow ro hp v z := by
 rcases g with ⟨rfl, h⟩ | ⟨b, blk, rfl, h2, h3, h4, h5, h6, h7⟩
 ·exact .inl ⟨rfl, by simpa using h⟩
 ·rw [List.length_map] at h6 h7 ⊢
  refine .inr ⟨_, _, blk, rfl, qdi h4 0, by show 0 + z.length ≤ _; omega, fun j hj => ?_⟩
  rw [Nat.zero_add, h7 j hj]
  simp [List.getD, hj]
end
end Go.Proofs.Ytfohppnelbbepaa.T
/- Letter -/
open Go.Vm
set_option linter.unusedVariables false
set_option linter.unusedSectionVars false
namespace Go.Proofs.Ytfohppnelbbepaa.T
open Go
variable [Ovr]
section
variable {ro : List ABlk} {h hp : Heap}
end
end Go.Proofs.Ytfohppnelbbepaa.T
/- Letter of the reference, law 7 -/
open Go.Vm
set_option linter.unusedVariables false
set_option linter.unusedSectionVars false
namespace Go.Proofs.Ytfohppnelbbepaa.T
open Go
variable [Ovr]
section
variable {ro : List ABlk} {h hp : Heap}
end
end Go.Proofs.Ytfohppnelbbepaa.T
/- Parts of the reference -/
open Go.Vm
set_option linter.unusedVariables false
set_option linter.unusedSectionVars false
namespace Go.Proofs.Ytfohppnelbbepaa.T
open Go
variable [Ovr]
section
variable {ro : List ABlk} {h hp : Heap}
theorem Holds.row {K : Heap} {b n : Nat} {c : Cap} {x : List Int} (a : Holds K b (x.map (AVal.i .i64))) (hn : n = x.length) : IsRow ro K (.sl ⟨false, b, 0⟩ n c) x := by
 subst hn
 obtain ⟨blk, h1, h2, h3⟩ := a
 rw [List.length_map] at h2 h3
 refine .inr ⟨_, _, blk, rfl, qdi h1 0, by show 0 + x.length ≤ _; omega, fun j hj => ?_⟩
 rw [Nat.zero_add, h3 j hj]
 simp [List.getD, hj]
def cntL (z : List (List UInt8)) (y : Nat) (s : List UInt8) (k : Nat) : List Int := (List.range k).map fun p => (((grw z y s).count (lt p) : Nat) : Int)
def cntOk (z : List (List UInt8)) (y : Nat) (s : List UInt8) (k : Nat) : Prop := ∀ p, p < k → (grw z y s).count (lt p) ≤ 1152921504606846976
noncomputable instance {z : List (List UInt8)} {y : Nat} {s : List UInt8} {k : Nat} : Decidable (cntOk z y s k) := Classical.propDecidable _
noncomputable def qjg (z : List (List UInt8)) (s : List UInt8) (y : Int) : List Int × Int := if errY z s y ≠ 0 then ([], errY z s y) else if cntOk z y.toNat s z.length then (cntL z y.toNat s z.length, 0) else ([], 4)
end
end Go.Proofs.Ytfohppnelbbepaa.T

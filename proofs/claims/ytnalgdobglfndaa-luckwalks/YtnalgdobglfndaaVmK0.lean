/- Contracts of the functions: what each of them answers. -/
import Derived.Test.YtnalgdobglfndaaVmFO
import Derived.Test.YtnalgdobglfndaaVmGt
import Derived.Test.YtnalgdobglfndaaVmAE
import Derived.Test.YtnalgdobglfndaaVmAF
import Derived.Test.YtnalgdobglfndaaRows
import Derived.WalkKit
import Derived.ProofKit
import Derived.OpenShut
import Derived.Carry
import Derived.Deep.Matrix
import Derived.Deep.Slices
/- From the small machine to the statement: lists of numbers and lists of such lists, in memory that is only read. -/
open Go.Vm
set_option linter.unusedVariables false
namespace Go.Proofs.Ytnalgdobglfndaa.T
open Go Go.RowKit Go.Deep Go.WideShapes Go.ChangeShapes

/-- what every list of lists is -/
def Fits (rows : List (List Int)) : Prop := rows.length ≤ 9223372036854775807 ∧ ∀ z ∈ rows, z.length ≤ 9223372036854775807 ∧ ∀ n ∈ z, inI64 n
abbrev F1 : Tab := ⟨F, known0 16 (.b true)⟩
/-- what is read in the world of a list of lists: the value, the rows -/
structure OpenM (W : World) (v0 : Value) (rows : List (List Int)) : Prop where
  o : (v0 = .slice none 0 0 ∧ rows = []) ∨ ∃ (a : Addr) (cap : Nat) (A : Nat → Option Addr) (L C : Nat → Nat) (Z : Nat → List Int), v0 = .slice (some a) rows.length cap ∧
    rows.length ≤ cap ∧ rows = (List.range rows.length).map (fun r => (Z r).take (L r)) ∧
    ∀ r, r < cap → a.block < W.heap.size ∧ W.cell? (a.add r) = some (.slice (A r) (L r) (C r)) ∧ L r ≤ C r ∧ (Z r).length = C r ∧ (A r = none → C r = 0) ∧
      ∀ x, A r = some x → ∀ c, c < C r → x.block < W.heap.size ∧ W.cell? (x.add c) = some (.int .i64 ((Z r).getD c 0))
  fits : Fits rows


theorem cells23 : Try.prog.cellsOf 23 = 1 := by kernel_rfl
theorem cells3 : Try.prog.cellsOf 3 = 1 := by kernel_rfl
theorem laidOut : laidOutB Try.prog = true := by kernel_rfl
theorem own : ownKnob Try.prog.godebug = none := by kernel_rfl

section
variable {H : Type} {enc : TypeId × Value → H} {W : World} {v0 : Value} {d : DataW H} {p : List MemPlace}
end

/-- the reading of a list of lists -/
theorem opened_mat {H : Type} {enc : TypeId × Value → H} {W : World} {v0 : Value} {d : DataW H} {p : List MemPlace} (hs : ∃ a len cap, v0 = .slice a len cap) (h : DataW.Trod enc Try.prog W 0 (fun _ => true) true 22 v0 d p) : ∃ rows, OpenM W v0 rows := by
  obtain ⟨a0, len, cap, rfl⟩ := hs
  obtain ⟨fuel, hf⟩ := h
  rcases open_int_rows Try.underlying22 Try.underlying23 Try.underlying3 cells23 cells3 hf with ⟨hcs0, hx⟩ | ⟨a, len', cap', A, L, C, Z, hcs0, _, hl, hm, hx, hrows⟩
  · simp [Value.cells] at hcs0
    obtain ⟨rfl, rfl, rfl⟩ := hcs0
    exact ⟨[], .inl ⟨rfl, rfl⟩, by simp [Fits]⟩
  · simp [Value.cells] at hcs0
    obtain ⟨rfl, rfl, rfl⟩ := hcs0
    have hml : maxLen = 9223372036854775807 := rfl
    refine ⟨(List.range len).map fun r => (Z r).take (L r), .inr ⟨a, cap, A, L, C, Z, by simp, by simpa using hl, by simp, fun r hr => ?_⟩, ?_⟩
    · obtain ⟨h1, h2, h3, h4, h5, h6, h7⟩ := hrows r hr
      refine ⟨World.block_lt_of_cell? _ _ h1 |> fun h => by simpa [addr_block] using h, h1, h2, h4, h6, fun x hx c hc => ?_⟩
      obtain ⟨-, h8⟩ := h7 x hx
      have := World.block_lt_of_cell? _ _ (h8 c hc)
      exact ⟨by simpa [addr_block] using this, h8 c hc⟩
    · refine ⟨by simp; omega, fun z hz => ?_⟩
      obtain ⟨r, hr, rfl⟩ := List.mem_map.1 hz
      have hr := List.mem_range.1 hr
      obtain ⟨h1, h2, h3, h4, h5, h6, h7⟩ := hrows r (by omega)
      refine ⟨by simp; omega, fun n hn => wf_i64 (h5 n (List.mem_of_mem_take hn))⟩

/-- a slice's room is at least its length -/
def CapO (v : AVal) : Prop := ∀ q n c, v = .sl q n (.known c) → n ≤ c
theorem env_ok {W : World} {ro : List ABlk} {rl : Rl} (h : ∀ (i : Nat) (b : ABlk), ro[i]? = some b → ∃ x, rl[i]? = some x ∧ ∀ j, j < b.n → x.block < W.heap.size ∧ ∃ v', W.cell? (x.add j) = some v' ∧ VR rl [] (b.c.get j) v') :
    (Env.mk Try.prog W.heap.size W ro rl).Ok := ⟨fun i b hb => h i b hb, Nat.le_refl _⟩
/-- what lies in the read-only blocks; more may come behind -/
def RoP (W : World) (ro : List ABlk) (rl : Rl) : Prop := ∀ (i : Nat) (b : ABlk), ro[i]? = some b → ∃ x, rl[i]? = some x ∧ ∀ j, j < b.n → x.block < W.heap.size ∧ ∃ v', W.cell? (x.add j) = some v' ∧ ∀ y, VR (rl ++ y) [] (b.c.get j) v'
theorem RoP.nil (W : World) : RoP W [] [] := fun i b hb => by simp at hb
theorem RoP.env {W : World} {ro : List ABlk} {rl : Rl} (h : RoP W ro rl) : (Env.mk Try.prog W.heap.size W ro rl).Ok := env_ok fun i b hb => by
  obtain ⟨y, h1, h2⟩ := h i b hb
  refine ⟨y, h1, fun j hj => ?_⟩
  obtain ⟨h3, v', h4, h5⟩ := h2 j hj
  exact ⟨h3, v', h4, by have := h5 []; simpa using this⟩
/-- the call of the model: true, and below nothing has turned -/
theorem call_of {W : World} {ro : List ABlk} {rl : Rl} (hE : (Env.mk Try.prog W.heap.size W ro rl).Ok) {K : Nat} {vs : List AVal} {args : Array Value}
    (hv : LR rl [] vs args) {h' : Heap} {lw lp : Nat} (hc : callX F1 ro K vs [] = some (.b true, h', lw, lp)) : Calls Try.prog K args W fun e W' => e = .returned (.bool true) ∧ Below W.heap.size W W' := by
  have hm : (Env.mk Try.prog W.heap.size W ro rl).P.follows .mixedOrders = true := Try.checked.mixed
  have hO : CallOk (Env.mk Try.prog W.heap.size W ro rl) (known0 16 (.b true)) := known0_of hE hm fok alive0 rfl
  obtain ⟨-, h2⟩ := callX_sound hE hm (F := F1) fok hO K vs [] _ _ _ _ hc
  refine Calls.mono (h2 [] W args ⟨Below.refl _ _, rfl, by simp, fun i b r K hl => by simp [Live] at hl, fun i j b b' r K K' hl => by simp [Live] at hl⟩ hv) fun e w' hq => ?_
  obtain ⟨v', rfl, m', hvr, T⟩ := hq
  exact ⟨by rw [hvr.inv_b], T.hr.below⟩
theorem alive_pure {ro : List ABlk} {h : Heap} : callX F1 ro 16 [] h = some (.b true, h, h.length, h.length) := callX_ov rfl
end Go.Proofs.Ytnalgdobglfndaa.T

/- Blocks that a function makes for itself; loops whose state is known. -/
open Go.Vm
set_option linter.unusedVariables false
namespace Go.Proofs.Ytnalgdobglfndaa.T
open Go

/-- a block of the heap that holds these values -/
def Holds (hp : Heap) (b : Nat) (vs : List AVal) : Prop := ∃ blk : ABlk, lget hp b = some (some blk) ∧ blk.n = vs.length ∧ ∀ j, j < vs.length → blk.c.get j = vs.getD j und
/-- what was there is still there -/
def Keep (h hp : Heap) : Prop := h.length ≤ hp.length ∧ ∀ i, i < h.length → hp[i]? = h[i]?

section
variable {ro : List ABlk} {h hp hp' : Heap} {b k e n l p : Nat} {vs : List AVal}
theorem Keep.refl (h : Heap) : Keep h h := ⟨Nat.le_refl _, fun _ _ => rfl⟩
theorem Keep.trans {h1 : Heap} (a : Keep h h1) (c : Keep h1 hp) : Keep h hp := ⟨Nat.le_trans a.1 c.1, fun i hi => by rw [c.2 i (by have := a.1; omega), a.2 i hi]⟩
theorem Keep.app (x : Heap) : Keep h (h ++ x) := ⟨by simp, fun i hi => List.getElem?_append_left hi⟩
theorem Keep.set (a : Keep h hp) (hb : h.length ≤ b) (x : Option ABlk) : Keep h (hp.set b x) := ⟨by simpa using a.1, fun i hi => by rw [List.getElem?_set_ne (by omega)]; exact a.2 i hi⟩
theorem Keep.eq (a : Keep h hp) : hp.take h.length = h := by
  refine List.ext_getElem? fun i => ?_
  rcases Nat.lt_or_ge i h.length with hi | hi
  · rw [List.getElem?_take_of_lt hi, a.2 i hi]
  · rw [List.getElem?_eq_none (by simp; omega), List.getElem?_eq_none hi]
theorem fin_keep {v : AVal} (a : Keep h hp) (hv : v.bel h.length = true) : finM h.length v ⟨hp, h.length, h.length⟩ = some (v, h, h.length, h.length) := by
  rw [fin_take hv, a.eq]
theorem Holds.lt (a : Holds hp b vs) : b < hp.length := by obtain ⟨blk, h1, -⟩ := a; exact lget_lt h1
theorem Holds.new (hp : Heap) (e : Nat) (vs : List AVal) : Holds (hp ++ [some (blkOf e vs)]) hp.length vs := ⟨_, lget_last _ _, rfl, fun j _ => get_blk e vs j⟩
theorem Holds.keep (a : Holds hp b vs) (hk : hp'[b]? = hp[b]?) : Holds hp' b vs := by
  obtain ⟨blk, h1, h2⟩ := a
  exact ⟨blk, by rw [lget_of hk]; exact h1, h2⟩
theorem Holds.ext (a : Holds hp b vs) (x : Heap) : Holds (hp ++ x) b vs := a.keep (List.getElem?_append_left a.lt)
theorem Holds.by (a : Holds hp b vs) (k : Keep hp hp') : Holds hp' b vs := a.keep (k.2 b a.lt)
theorem Holds.one (a : Holds hp b vs) (hk : k < vs.length) : ldM ro ⟨hp, l, p⟩ true 1 (.p (some ⟨false, b, 0 + k⟩)) = some (vs.getD k und) := by
  obtain ⟨blk, h1, h2, h3⟩ := a
  rw [ld_heap rfl h1 (by omega), ← h3 k hk, Nat.zero_add]
theorem row_list {t : Tr} : ∀ (vs : List AVal) (i : Nat), (∀ j, j < vs.length → t.get (i + j) = vs.getD j und) → t.row i vs.length = vs
  | [], i, _ => rfl
  | v :: vs, i, h => by
    simp only [List.length_cons, Tr.row]
    rw [show t.get i = v by simpa using h 0 (by simp), row_list vs (i + 1) fun j hj => by have := h (j + 1) (by simp; omega); rw [show i + 1 + j = i + (j + 1) by omega, this]; simp]
theorem Holds.rd (a : Holds hp b vs) (hn : n = vs.length) : Go.Vm.rd ro hp false n ⟨false, b, 0⟩ = some (.agg vs) := by
  subst hn
  obtain ⟨blk, h1, h2, h3⟩ := a
  have hc : Nat.ble (0 + vs.length) blk.n = true := by rw [Nat.ble_eq]; omega
  simp only [Go.Vm.rd, rdB_heap h1, cond_false, hc, cond_true]
  rw [row_list vs 0 fun j hj => by rw [Nat.zero_add]; exact h3 j hj]
theorem Holds.all (a : Holds hp b vs) (hn : n = vs.length) : ldM ro ⟨hp, l, p⟩ false n (.p (some ⟨false, b, 0⟩)) = some (.agg vs) := by
  simp only [ldM, a.rd hn]
theorem spliceGet (t : Tr) : ∀ (vs : List AVal) (i j : Nat), (t.splice i vs).get j = if i ≤ j ∧ j < i + vs.length then vs.getD (j - i) und else t.get j
  | [], i, j => by simp [Tr.splice]; intro h1 h2; omega
  | v :: vs, i, j => by
    rw [Tr.splice, spliceGet (t.set i v) vs (i + 1) j, get_set]
    by_cases e : i = j
    · subst e
      rw [if_neg (by omega), if_pos rfl, if_pos (by simp)]; simp
    · by_cases h2 : i ≤ j ∧ j < i + (v :: vs).length
      · have h3 : i + 1 ≤ j ∧ j < i + 1 + vs.length := by simp at h2; omega
        rw [if_pos h2, if_pos h3]
        obtain ⟨q, rfl⟩ : ∃ q, j = i + 1 + q := ⟨j - (i + 1), by omega⟩
        rw [show i + 1 + q - i = q + 1 by omega, show i + 1 + q - (i + 1) = q by omega]
        simp
      · have h3 : ¬ (i + 1 ≤ j ∧ j < i + 1 + vs.length) := by simp at h2; omega
        rw [if_neg h2, if_neg h3, if_neg e]
theorem wrH_all {blk : ABlk} (hb : lget hp b = some (some blk)) (hn : vs.length ≤ blk.n) (ho : ones vs = true) : wrH hp ⟨false, b, 0⟩ vs = some (hp.set b (some { blk with c := blk.c.splice 0 vs })) := by
  have : (Nat.ble (0 + vs.length) blk.n && ones vs) = true := by rw [ho, Bool.and_true, Nat.ble_eq]; omega
  simp only [wrH, cond_false, hb, this, cond_true, lset_eq]
/-- a block is written whole -/
theorem Holds.st {vs' : List AVal} {v : AVal} (a : Holds hp b vs) (hv : v.cells = vs') (hn : n = vs'.length) (hl : vs'.length = vs.length) (ho : ones vs' = true) (hL : h.length ≤ b) (kp : Keep h hp) :
    ∃ hp', stepM ro ⟨hp, h.length, h.length⟩ (.st n (.c (.p (some ⟨false, b, 0⟩))) (.c v)) = some (und, ⟨hp', h.length, h.length⟩) ∧ Holds hp' b vs' ∧ hp'.length = hp.length ∧ (∀ i, i ≠ b → hp'[i]? = hp[i]?) ∧ Keep h hp' := by
  obtain ⟨blk, h1, h2, h3⟩ := a
  subst hv hn
  have hw := wrH_all h1 (vs := v.cells) (by omega) ho
  refine ⟨hp.set b (some { blk with c := blk.c.splice 0 v.cells }), ?_, ⟨_, lget_set h1 _, by simpa using (h2.trans hl.symm), fun j hj => ?_⟩, by simp, fun i hi => List.getElem?_set_ne (Ne.symm hi), kp.set hL _⟩
  · have hbq : Nat.beq v.cells.length v.cells.length = true := Nat.beq_refl _
    have e : (cond (nonp v.cells) h.length h.length) = h.length := by cases nonp v.cells <;> rfl
    simp only [stepM, stepK, opd, st_st, hbq, cond_true, hw, St.mm, Nat.min_eq_left hL, e]
  · show (blk.c.splice 0 v.cells).get j = _
    rw [spliceGet, if_pos (by omega)]; simp
theorem al_ok (e : Nat) (z : List AVal) : stepM ro ⟨hp, l, p⟩ (.al e z) = some (.p (some ⟨false, hp.length, 0⟩), ⟨hp ++ [some (blkOf e z)], l, p⟩) := rfl
end

theorem ext0 (a : AVal) (l : List AVal) : evP .e (.ext 0 (.c (.tup (a :: l)))) = some a := rfl
theorem ext1 (a b : AVal) (l : List AVal) : evP .e (.ext 1 (.c (.tup (a :: b :: l)))) = some b := rfl
section
variable {ro : List ABlk} {h : Heap} {v : AVal}
theorem row_by {hp : Heap} {z : List Int} (a : IsRow ro h v z) (k : Keep h hp) : IsRow ro hp v z := by
  rw [take_eq k.1 k.2]; exact a.ext _
end

/-- one cell of a block is written -/
theorem Holds.set {ro : List ABlk} {h hp : Heap} {b k : Nat} {vs : List AVal} {v : AVal} (a : Holds hp b vs) (hk : k < vs.length) (hv : v.one = true) (hc : v.cells = [v]) (hn : nonp [v] = true) (hL : h.length ≤ b) (kp : Keep h hp) :
    ∃ hp', stepM ro ⟨hp, h.length, h.length⟩ (.st 1 (.c (.p (some ⟨false, b, 0 + k * 1⟩))) (.c v)) = some (und, ⟨hp', h.length, h.length⟩) ∧ Holds hp' b (vs.set k v) ∧ hp'.length = hp.length ∧ (∀ i, i ≠ b → hp'[i]? = hp[i]?) ∧ Keep h hp' := by
  obtain ⟨blk, h1, h2, h3⟩ := a
  have e : 0 + k * 1 = k := by omega
  refine ⟨hp.set b (some { blk with c := blk.c.set k v }), ?_, ⟨_, lget_set h1 _, by simpa using h2, fun j hj => ?_⟩, by simp, fun i hi => List.getElem?_set_ne (Ne.symm hi), kp.set hL _⟩
  · rw [e, st_heap h1 (by omega) hv hc hn, Nat.min_eq_left hL]
  · show (blk.c.set k v).get j = _
    rw [get_set]
    simp only [List.length_set] at hj
    by_cases e : k = j
    · subst e; simp [List.getD, hj]
    · rw [if_neg e, h3 j hj]
      simp [List.getD, List.getElem?_set_ne e]


/-- a loop whose state is known for each round -/
theorem loop_st {S R : Type} {b : S → Option (S ⊕ R)} (st : Nat → S) (n : Nat) (step : Nat → Option R) (r0 : R) (hout : b (st n) = some (.inr r0)) (hin : ∀ i, i < n → b (st i) = some (match step i with | some r => .inr r | none => .inl (st (i + 1)))) :
    ∀ (k i : Nat), i + k = n → loopX b (st i) = some ((firstS step k i).getD r0)
  | 0, i, hi => by
    simp only [Nat.add_zero] at hi
    subst hi
    exact loopX_out hout
  | k + 1, i, hi => by
    have h1 := hin i (by omega)
    unfold firstS
    cases hs : step i with
    | some r => rw [hs] at h1; exact loopX_out h1
    | none =>
      rw [hs] at h1
      exact loopX_on h1 (loop_st st n step r0 hout hin k (i + 1) (by omega))
/-- one that runs to its end -/
theorem loop_run {S R : Type} {b : S → Option (S ⊕ R)} (st : Nat → S) (n : Nat) {r0 : R} (hout : b (st n) = some (.inr r0)) (hin : ∀ i, i < n → b (st i) = some (.inl (st (i + 1)))) : loopX b (st 0) = some r0 := by
  have := loop_st st n (fun _ => none) r0 hout hin n 0 (by omega)
  rw [firstS_none.2 fun _ _ _ => rfl] at this
  exact this
/-- one that looks for something -/
theorem loop_if {S R : Type} {b : S → Option (S ⊕ R)} (st : Nat → S) (n : Nat) (P : Nat → Prop) [DecidablePred P] (r0 r1 : R) (hout : b (st n) = some (.inr r0)) (hin : ∀ i, i < n → P i → b (st i) = some (.inl (st (i + 1)))) (hno : ∀ i, i < n → ¬ P i → b (st i) = some (.inr r1)) :
    loopX b (st 0) = some (if (∀ i, i < n → P i) then r0 else r1) := by
  have := loop_st st n (fun i => if P i then none else some r1) r0 hout (fun i hi => by
    by_cases hp : P i
    · rw [if_pos hp]; exact hin i hi hp
    · rw [if_neg hp]; exact hno i hi hp) n 0 (by omega)
  rw [this]
  by_cases hall : ∀ i, i < n → P i
  · rw [if_pos hall, firstS_none.2 fun j _ h2 => by rw [if_pos (hall j (by omega))]]; rfl
  · rw [if_neg hall]
    cases hf : firstS (fun i => if P i then none else some r1) n 0 with
    | none =>
      refine absurd (fun i hi => ?_) hall
      have := firstS_none.1 hf i (by omega) (by omega)
      simpa using this
    | some r =>
      obtain ⟨j, -, -, h3, -⟩ := firstS_some hf
      by_cases hc : P j
      · rw [if_pos hc] at h3; cases h3
      · rw [if_neg hc] at h3; cases h3; rfl

theorem dT {p : Prop} [Decidable p] (h : p) : decide p = true := decide_eq_true h
theorem dF {p : Prop} [Decidable p] (h : ¬ p) : decide p = false := decide_eq_false h
theorem row_bel {ro : List ABlk} {h : Heap} {v : AVal} {z : List Int} (a : IsRow ro h v z) : v.bel h.length = true := by
  rcases a with ⟨rfl, -⟩ | ⟨q, cap, blk, rfl, hb, -⟩
  · rfl
  · simpa [AVal.bel] using rdB_lt hb
theorem mat_by {ro : List ABlk} {h hp : Heap} {v : AVal} {z : List (List Int)} (a : IsMat ro h v z) (k : Keep h hp) : IsMat ro hp v z := by
  rw [take_eq k.1 k.2]; exact a.ext _
theorem at_rowK {ro : List ABlk} {h : Heap} {v : AVal} {z : List Int} (hr : IsRow ro h v z) {i : Nat} (hi : i < z.length) : ∃ p, evP .e (.ixS 1 (.c v) (.c (.i .i64 (i : Int)))) = some p ∧ ∀ {hp : Heap} {l q : Nat}, Keep h hp → ldM ro ⟨hp, l, q⟩ true 1 p = some (.i .i64 (z.getD i 0)) ∧ ldA ro hp true 1 p = some (.i .i64 (z.getD i 0)) := by
  obtain ⟨p, h1, -⟩ := at_row (m := ⟨h, 0, 0⟩) rfl hr hi
  refine ⟨p, h1, fun {hp l q} k => ?_⟩
  obtain ⟨p', g1, g2, g3⟩ := at_row (m := ⟨hp, l, q⟩) rfl (row_by hr k) hi
  rw [h1] at g1; cases g1
  exact ⟨g2, g3⟩
theorem at_matK {ro : List ABlk} {h : Heap} {v : AVal} {x : List (List Int)} (hr : IsMat ro h v x) {i : Nat} (hi : i < x.length) : ∃ p u, evP .e (.ixS 1 (.c v) (.c (.i .i64 (i : Int)))) = some p ∧ (∀ {hp : Heap} {l q : Nat}, Keep h hp → ldM ro ⟨hp, l, q⟩ true 1 p = some u ∧ ldA ro hp true 1 p = some u) ∧ IsRow ro h u (x.getD i []) := by
  rcases hr with ⟨rfl, rfl⟩ | ⟨q, cap, blk, rfl, hb, hn, hc⟩
  · simp at hi
  · refine ⟨_, _, ixS_eq hi, fun {hp l q'} k => ?_, hc i hi⟩
    have hb' : rdB ro hp q = some blk := by rw [take_eq k.1 k.2]; exact rdB_ext _ hb
    have h1 := rd_one (i := i) hb' (by omega)
    refine ⟨h1, ?_⟩
    have := rdB_lt hb'
    simp only [ldA, this, cond_true, h1]
abbrev nthR (x : List (List Int)) (i : Nat) : List Int := x.getD i []
theorem cp {F : Tab} {ro : List ABlk} {h : Heap} {f : Nat} {a : List AVal} {v : AVal} {l p : Nat} (e : callX F ro f a h = some (v, h, h.length, h.length)) (hl : l ≤ h.length) (hp : p ≤ h.length) : callM (callX F ro) ⟨h, l, p⟩ f a = some (v, ⟨h, l, p⟩) :=
  callM_pure e hl hp
theorem cp0 {F : Tab} {ro : List ABlk} {h : Heap} {f : Nat} {a : List AVal} {v : AVal} (e : callX F ro f a h = some (v, h, h.length, h.length)) : callM (callX F ro) ⟨h, h.length, h.length⟩ f a = some (v, ⟨h, h.length, h.length⟩) :=
  callM_pure e (Nat.le_refl _) (Nat.le_refl _)

/- the laws' own: few, same -/
def few (x : List (List Int)) (z : List Int) : Prop := (∀ i, i < x.length → i < 250 ∧ (nthR x i).length ≤ 40) ∧ z.length ≤ 1100
instance (x : List (List Int)) (z : List Int) : Decidable (few x z) := inferInstanceAs (Decidable ((∀ i, i < x.length → i < 250 ∧ (nthR x i).length ≤ 40) ∧ z.length ≤ 1100))
theorem few.len {x : List (List Int)} {z : List Int} (h : few x z) : x.length ≤ 250 := by
  by_cases h1 : x.length = 0
  · omega
  · have := (h.1 (x.length - 1) (by omega)).1
    omega
theorem few_ok {ro : List ABlk} {h : Heap} {a b : AVal} {x : List (List Int)} {z : List Int} (ha : IsMat ro h a x) (hb : IsRow ro h b z) (hx : x.length ≤ 9223372036854775807) : callX F1 ro 15 [a, b] h = some (.b (decide (few x z)), h, h.length, h.length) := by
  refine g15_ok (meansX_ok F1 ro) rfl ?_
  unfold g15
  simp only [meansX_loop]
  have hloop := loop_if (b := fun s => g15_b0 (meansX F1 ro) ro a b ⟨h, h.length, h.length⟩ s) (fun i => (i : Int)) x.length (fun i => i < 250 ∧ (nthR x i).length ≤ 40) (.inl ()) (.inr false) ?_ ?_ ?_
  · have e0 : ((0 : Nat) : Int) = 0 := rfl
    rw [e0] at hloop
    rw [hloop]
    by_cases hf : ∀ i, i < x.length → i < 250 ∧ (nthR x i).length ≤ 40
    · rw [if_pos hf]
      simp only [bindO_some, len_row hb, asI_i, forceB_eq, ltI_eq, tupA]
      have e : decide (few x z) = !decide ((1100 : Int) < (z.length : Int)) := by
        rw [← decide_not]; exact decide_eq_decide.2 ⟨fun hh => by have := hh.2; omega, fun hh => ⟨hf, by omega⟩⟩
      rw [e]
      exact fin_pure rfl
    · rw [if_neg hf]
      have e : decide (few x z) = false := by simp only [decide_eq_false_iff_not]; exact fun hh => hf hh.1
      simp only [bindO_some, e, tupA]
      exact fin_pure rfl
  · simp only [g15_b0, len_mat ha, bindO_some, asI_i, forceB_eq, ltI_eq]
    simp
  · intro i hi hp
    obtain ⟨p, u, h1, h2, h3, h4⟩ := at_mat (m := ⟨h, h.length, h.length⟩) rfl ha hi
    have e := lt_yes hi
    have e2 : (!decide ((i : Int) < 250)) = false := by have := hp.1; simp; omega
    have h5 : (x.getD i []).length ≤ 40 := hp.2
    have e3 : decide ((40 : Int) < ((x.getD i []).length : Int)) = false := dF (by omega)
    simp only [g15_b0, len_mat ha, bindO_some, asI_i, forceB_eq, ltI_eq, e, cond_true, e2, cond_false, h1, h2, len_row h4, e3, forceI_eq]
    rw [wr_id' (by omega) (by omega)]
    rfl
  · intro i hi hp
    obtain ⟨p, u, h1, h2, h3, h4⟩ := at_mat (m := ⟨h, h.length, h.length⟩) rfl ha hi
    have e := lt_yes hi
    by_cases h250 : i < 250
    · have e2 : (!decide ((i : Int) < 250)) = false := by simp; omega
      have e3 : decide ((40 : Int) < ((x.getD i []).length : Int)) = true := by
        have : ¬ (x.getD i []).length ≤ 40 := fun hh => hp ⟨h250, hh⟩
        exact dT (by omega)
      simp only [g15_b0, len_mat ha, bindO_some, asI_i, forceB_eq, ltI_eq, e, cond_true, e2, cond_false, h1, h2, len_row h4, e3]
    · have e2 : (!decide ((i : Int) < 250)) = true := by simp; omega
      simp only [g15_b0, len_mat ha, bindO_some, asI_i, forceB_eq, ltI_eq, e, cond_true, e2]

end Go.Proofs.Ytnalgdobglfndaa.T

/- Lists that a function makes by append. -/
open Go.Vm
set_option linter.unusedVariables false
namespace Go.Proofs.Ytnalgdobglfndaa.T
open Go

/-- a list made by append, in a block from L on -/
def GV (hp : Heap) (L e es : Nat) (v : AVal) (k : Nat) (cs : List AVal) : Prop :=
  (v = .nsl ∧ k = 0 ∧ cs = []) ∨ ∃ b blk, v = .sl ⟨false, b, 0⟩ k .grow ∧ 0 < k ∧ L ≤ b ∧ lget hp b = some (some blk) ∧ blk.e = e ∧ cs.length = k * es ∧ k * es ≤ blk.n ∧ ∀ j, j < k * es → blk.c.get j = cs.getD j und
theorem GV.nil (hp : Heap) (L e es : Nat) : GV hp L e es .nsl 0 [] := .inl ⟨rfl, rfl, rfl⟩
theorem GV.clen {hp : Heap} {L e es k : Nat} {v : AVal} {cs : List AVal} (g : GV hp L e es v k cs) : cs.length = k * es := by
  rcases g with ⟨-, rfl, rfl⟩ | ⟨b, blk, -, -, -, -, -, h, -⟩
  · simp
  · exact h
/-- blocks below L, and those above that are kept, hold the list as before -/
theorem GV.by {hp hp' : Heap} {L e es k : Nat} {v : AVal} {cs : List AVal} (g : GV hp L e es v k cs) (kp : Keep hp hp') : GV hp' L e es v k cs := by
  rcases g with h | ⟨b, blk, h1, h2, h3, h4, h5⟩
  · exact .inl h
  · exact .inr ⟨b, blk, h1, h2, h3, by rw [lget_of (kp.2 b (lget_lt h4))]; exact h4, h5⟩
theorem row_row {t : Tr} : ∀ (n i : Nat) (cs : List AVal), cs.length = n → (∀ j, j < n → t.get (i + j) = cs.getD j und) → t.row i n = cs := by
  intro n i cs hl h
  subst hl
  exact row_list cs i h
theorem GV.row {ro : List ABlk} {hp : Heap} {L e : Nat} {v : AVal} {k : Nat} {z : List Int} (g : GV hp L e 1 v k (z.map (AVal.i .i64))) (hk : z.length = k) : IsRow ro hp v z := by
  subst hk
  rcases g with ⟨rfl, h2, -⟩ | ⟨b, blk, rfl, hpos, hLb, hbk, hbe, hcl, hbn, hrows⟩
  · exact .inl ⟨rfl, List.length_eq_zero_iff.1 h2⟩
  · refine .inr ⟨_, _, blk, rfl, rdB_heap hbk 0, by simpa using hbn, fun j hj => ?_⟩
    rw [Nat.zero_add, hrows j (by omega), map_getD hj]
end Go.Proofs.Ytnalgdobglfndaa.T

/- What a record is: the program's checks and the reference's. -/
open Go.Vm
set_option linter.unusedVariables false
namespace Go.Proofs.Ytnalgdobglfndaa.T
open Go

def bitP (x : Int) : Prop := x = 0 ∨ x = 1
instance (x : Int) : Decidable (bitP x) := inferInstanceAs (Decidable (_ ∨ _))
def bitsP (z : List Int) : Prop := ∀ j, j < z.length → bitP (z.getD j 0)
instance (z : List Int) : Decidable (bitsP z) := inferInstanceAs (Decidable (∀ j, j < z.length → bitP (z.getD j 0)))
/-- a row of so many numbers 0 or 1 -/
def rowP (z : List Int) (n : Int) : Prop := bitsP z ∧ (z.length : Int) = n
instance (z : List Int) (n : Int) : Decidable (rowP z n) := inferInstanceAs (Decidable (_ ∧ _))
def matP (x : List (List Int)) (k n : Int) : Prop := (∀ i, i < x.length → rowP (nthR x i) n) ∧ (x.length : Int) = k
instance (x : List (List Int)) (k n : Int) : Decidable (matP x k n) := inferInstanceAs (Decidable (_ ∧ _))

section
variable {ro : List ABlk} {h : Heap} {a b : AVal} {x : List (List Int)} {z : List Int}

theorem bit_ok {n : Int} : callX F1 ro 65 [.i .i64 n] h = some (.b (decide (bitP n)), h, h.length, h.length) := by
  refine g65_ok (meansX_ok F1 ro) rfl ?_
  unfold g65
  simp only [forceB_eq, eqI_eq]
  have e : decide (bitP n) = ((n == 0) || (n == 1)) := by
    by_cases h0 : n = 0
    · subst h0; rfl
    · by_cases h1 : n = 1
      · subst h1; rfl
      · rw [dF (show ¬ bitP n from fun hh => by rcases hh with hh | hh <;> contradiction)]; simp [h0, h1]
  rw [e]
  cases h0 : (n == 0)
  · simp only [cond_false, bindO_some, Bool.false_or, tupA]; exact fin_pure rfl
  · simp only [cond_true, bindO_some, Bool.true_or, tupA]; exact fin_pure rfl

theorem areBits_ok {n : Int} (hb : IsRow ro h b z) (hz : z.length ≤ 9223372036854775807) : callX F1 ro 61 [b, .i .i64 n] h = some (.b (decide (rowP z n)), h, h.length, h.length) := by
  refine g61_ok (meansX_ok F1 ro) rfl ?_
  unfold g61
  simp only [len_row hb, bindO_some, asI_i, meansX_loop]
  have hloop := loop_if (b := fun s => g61_b0 (meansX F1 ro) ro b n z.length ⟨h, h.length, h.length⟩ s) (fun i => (i : Int)) z.length (fun i => bitP (z.getD i 0)) (.inl ()) (.inr false) ?_ ?_ ?_
  · have e0 : ((0 : Nat) : Int) = 0 := rfl
    rw [e0] at hloop
    rw [hloop]
    by_cases hf : bitsP z
    · rw [if_pos (show ∀ i, i < z.length → bitP (z.getD i 0) from hf)]
      simp only [bindO_some, forceB_eq, eqI_eq, tupA]
      have e : decide (rowP z n) = ((z.length : Int) == n) := by
        by_cases hn : (z.length : Int) = n
        · rw [dT (show rowP z n from ⟨hf, hn⟩)]; simp [hn]
        · rw [dF (show ¬ rowP z n from fun hh => hn hh.2)]; simp [hn]
      rw [e]
      exact fin_pure rfl
    · rw [if_neg (show ¬ ∀ i, i < z.length → bitP (z.getD i 0) from hf)]
      simp only [bindO_some, dF (show ¬ rowP z n from fun hh => hf hh.1), tupA]
      exact fin_pure rfl
  · simp only [g61_b0, forceB_eq, ltI_eq, lt_no, cond_false]
  · intro i hi hp
    obtain ⟨p, h1, h2, h3⟩ := at_row (m := ⟨h, h.length, h.length⟩) rfl hb hi
    simp only [g61_b0, forceB_eq, ltI_eq, lt_yes hi, cond_true, h1, h2, bindO_some, asI_i, eqI_eq]
    rcases hp with hp | hp
    · simp only [hp, beq_self_eq_true, Bool.not_true, cond_false, bindO_some, forceI_eq]
      rw [wr_id' (by omega) (by omega)]; rfl
    · have e0 : ((1 : Int) == 0) = false := rfl
      simp only [hp, e0, Bool.not_false, cond_true, beq_self_eq_true, Bool.not_true, cond_false, bindO_some, forceI_eq]
      rw [wr_id' (by omega) (by omega)]; rfl
  · intro i hi hp
    obtain ⟨p, h1, h2, h3⟩ := at_row (m := ⟨h, h.length, h.length⟩) rfl hb hi
    have e0 : (z.getD i 0 == 0) = false := by rw [beq_eq_false_iff_ne]; exact fun hh => hp (.inl hh)
    have e1 : (z.getD i 0 == 1) = false := by rw [beq_eq_false_iff_ne]; exact fun hh => hp (.inr hh)
    simp only [g61_b0, forceB_eq, ltI_eq, lt_yes hi, cond_true, h1, h2, bindO_some, asI_i, eqI_eq, e0, e1, Bool.not_false]

/-- how long the rows and the list are: no more than an int can count -/
def LenOk (x : List (List Int)) : Prop := x.length ≤ 9223372036854775807 ∧ ∀ i, i < x.length → (nthR x i).length ≤ 9223372036854775807
theorem areSaid_ok {k n : Int} (ha : IsMat ro h a x) (hl : LenOk x) : callX F1 ro 68 [a, .i .i64 k, .i .i64 n] h = some (.b (decide (matP x k n)), h, h.length, h.length) := by
  refine g68_ok (meansX_ok F1 ro) rfl ?_
  unfold g68
  simp only [len_mat ha, bindO_some, asI_i, meansX_loop]
  have hloop := loop_if (b := fun s : Int × Mm => g68_b0 (meansX F1 ro) ro a k n x.length s.1 s.2) (fun i => ((i : Int), (⟨h, h.length, h.length⟩ : Mm))) x.length (fun i => rowP (nthR x i) n) (.inl ⟨h, h.length, h.length⟩) (.inr (false, ⟨h, h.length, h.length⟩)) ?_ ?_ ?_
  · have e0 : ((0 : Nat) : Int) = 0 := rfl
    rw [e0] at hloop
    rw [hloop]
    by_cases hf : ∀ i, i < x.length → rowP (nthR x i) n
    · rw [if_pos hf]
      simp only [bindO_some, forceB_eq, eqI_eq, tupA]
      have e : decide (matP x k n) = ((x.length : Int) == k) := by
        by_cases hn : (x.length : Int) = k
        · rw [dT (show matP x k n from ⟨hf, hn⟩)]; simp [hn]
        · rw [dF (show ¬ matP x k n from fun hh => hn hh.2)]; simp [hn]
      rw [e]
      exact fin_pure rfl
    · rw [if_neg hf]
      simp only [bindO_some, dF (show ¬ matP x k n from fun hh => hf hh.1), tupA]
      exact fin_pure rfl
  · simp only [g68_b0, forceB_eq, ltI_eq, lt_no, cond_false]
  · intro i hi hp
    obtain ⟨p, u, h1, h2, h3, h4⟩ := at_mat (m := ⟨h, h.length, h.length⟩) rfl ha hi
    have := hl.1
    simp only [g68_b0, forceB_eq, ltI_eq, lt_yes hi, cond_true, h1, h2, bindO_some, meansX_call, cp0 (areBits_ok (n := n) h4 (hl.2 i hi)), bindP_some, asB_b, dT hp, Bool.not_true, cond_false, forceI_eq]
    rw [wr_id' (by omega) (by omega)]; rfl
  · intro i hi hp
    obtain ⟨p, u, h1, h2, h3, h4⟩ := at_mat (m := ⟨h, h.length, h.length⟩) rfl ha hi
    simp only [g68_b0, forceB_eq, ltI_eq, lt_yes hi, cond_true, h1, h2, bindO_some, meansX_call, cp0 (areBits_ok (n := n) h4 (hl.2 i hi)), bindP_some, asB_b, dF hp, Bool.not_false]

/-- the bits of one row, as the reference looks at them -/
theorem rowLoop {R : Type} {n : Nat} (r : R) {b0 : Int × Mm → Option ((Int × Mm) ⊕ (Mm ⊕ R))} {m : Mm} {zz : List Int} (hn : n = zz.length)
    (hin : ∀ i, i < n → b0 ((i : Int), m) = some (cond (decide (bitP (zz.getD i 0))) (.inl (((i + 1 : Nat) : Int), m)) (.inr (.inr r)))) (hout : b0 ((n : Int), m) = some (.inr (.inl m))) :
    loopX b0 (0, m) = some (if bitsP zz then .inl m else .inr r) := by
  subst hn
  have hloop := loop_if (b := b0) (fun i => ((i : Int), m)) zz.length (fun i => bitP (zz.getD i 0)) (.inl m) (.inr r) hout (fun i hi hp => by rw [hin i hi, dT hp]; rfl) (fun i hi hp => by rw [hin i hi, dF hp]; rfl)
  have e0 : ((0 : Nat) : Int) = 0 := rfl
  rw [e0] at hloop
  exact hloop

end
end Go.Proofs.Ytnalgdobglfndaa.T

/- Ratios in lowest terms; what foretellers say; how many bits a number has. -/
open Go.Vm
set_option linter.unusedVariables false
namespace Go.Proofs.Ytnalgdobglfndaa.T
open Go

abbrev rV (a b : Int) : AVal := .agg [.i .i64 a, .i .i64 b]
/-- a ratio in lowest terms -/
def ratV (a b : Nat) : AVal := rV ((a / Nat.gcd a b : Nat) : Int) ((b / Nat.gcd a b : Nat) : Int)
def saidP (k n : Int) (x : List (List Int)) : Prop := 1 ≤ k ∧ k ≤ 10 ∧ 1 ≤ n ∧ n ≤ 20 ∧ matP x k n
instance (k n : Int) (x : List (List Int)) : Decidable (saidP k n x) := inferInstanceAs (Decidable (_ ∧ _))

section
variable {ro : List ABlk} {h hp : Heap} {a b : AVal} {x : List (List Int)} {z : List Int}

theorem fill2 (a b : Int) : (fillA [(AVal.i IntKind.i64 0), (AVal.i IntKind.i64 0)] [((0, 1), (.i .i64 a)), ((1, 1), (.i .i64 b))]).map AVal.agg = some (rV a b) := rfl
theorem fill0 : (fillA [(AVal.i IntKind.i64 0), (AVal.i IntKind.i64 0)] []).map AVal.agg = some (rV 0 0) := rfl
/-- a cell for a ratio is written whole -/
theorem put2 {q : Nat} {u : AVal} {v : List AVal} (a : Holds hp q v) (hv : v.length = 2) (hL : h.length ≤ q) (kp : Keep h hp) {x y : Int} (hu : u = rV x y) :
    ∃ hp', stepM ro ⟨hp, h.length, h.length⟩ (.st 2 (.c (.p (some ⟨false, q, 0⟩))) (.c u)) = some (und, ⟨hp', h.length, h.length⟩) ∧ ldM ro ⟨hp', h.length, h.length⟩ false 2 (.p (some ⟨false, q, 0⟩)) = some u ∧ hp'.length = hp.length ∧ (∀ i, i ≠ q → hp'[i]? = hp[i]?) ∧ Keep h hp' := by
  subst hu
  obtain ⟨hp', h1, h2, h3, h4, h5⟩ := a.st (ro := ro) (h := h) (vs' := [.i .i64 x, .i .i64 y]) (v := rV x y) (n := 2) rfl rfl (by rw [hv]; rfl) rfl hL kp
  exact ⟨hp', h1, h2.all rfl, h3, h4, h5⟩

theorem wr_nat {n : Nat} (hn : n ≤ 9223372036854775807) : wr .i64 (n : Int) = (n : Int) := wr_id' (by omega) (by omega)
theorem gcdLoop {b0 : Int × Int → Option ((Int × Int) ⊕ Int)} (hb : ∀ x y, b0 (x, y) = forceB (!eqI y 0) fun c => cond c (chk (!eqI y (.ofNat 0)) <| forceI (Int.tmod x y) fun r => some (.inl (y, r))) (some (.inr x))) (a b : Nat) : loopX b0 ((a : Int), (b : Int)) = some ((Nat.gcd a b : Nat) : Int) := by
  refine gcd_loop (fun a => ?_) (fun a b hb0 => ?_) (b + 1) a b (by omega)
  · rw [hb]; rfl
  · rw [hb]
    have e : (!eqI (b : Int) 0) = true := by rw [eqI_eq]; simp; omega
    have e2 : (!eqI (b : Int) (.ofNat 0)) = true := e
    simp only [e, e2, forceB_eq, cond_true, chk_true, forceI_eq, tmod_nat]

theorem lowest_ok {n d : Nat} (hd : 0 < d) (hn : n ≤ 1000000000) (hd2 : d ≤ 1000000000) : callX F1 ro 63 [.i .i64 (n : Int), .i .i64 (d : Int)] h = some (ratV n d, h, h.length, h.length) := by
  refine g63_ok (meansX_ok F1 ro) rfl ?_
  unfold g63
  rw [al_ok]
  simp only [bindP_some, meansX_loop]
  have hloop := gcdLoop (b0 := fun s => g63_b0 (meansX F1 ro) ro (n : Int) (d : Int) (.p (some ⟨false, h.length, 0⟩)) ⟨h ++ [some (blkOf 42 [(AVal.i IntKind.i64 0), (AVal.i IntKind.i64 0)])], h.length, h.length⟩ s.1 s.2) (fun x y => rfl) n d
  have hg : 0 < Nat.gcd n d := Nat.gcd_pos_of_pos_right n hd
  have e : (!eqI ((Nat.gcd n d : Nat) : Int) (.ofNat 0)) = true := by rw [eqI_eq]; simp; omega
  have w1 : wr .i64 (((n / Nat.gcd n d : Nat)) : Int) = _ := wr_nat (Nat.le_trans (Nat.div_le_self _ _) (by omega))
  have w2 : wr .i64 (((d / Nat.gcd n d : Nat)) : Int) = _ := wr_nat (Nat.le_trans (Nat.div_le_self _ _) (by omega))
  obtain ⟨hp', h1, h2, h3, h4, h5⟩ := put2 (ro := ro) (h := h) (Holds.new h 42 [(AVal.i IntKind.i64 0), (AVal.i IntKind.i64 0)]) rfl (Nat.le_refl _) (Keep.app _) (u := ratV n d) rfl
  simp only [hloop, bindO_some, e, chk_true, forceI_eq, tdiv_nat, w1, w2, fill2]
  have h1' : stepM ro ⟨h ++ [some (blkOf 42 [(AVal.i IntKind.i64 0), (AVal.i IntKind.i64 0)])], h.length, h.length⟩ (.st 2 (.c (.p (some ⟨false, h.length, 0⟩))) (.c (rV ((n / Nat.gcd n d : Nat) : Int) ((d / Nat.gcd n d : Nat) : Int)))) = _ := h1
  simp only [h1', bindP_some, h2, bindO_some, tupA]
  exact fin_keep h5 rfl

theorem Said_ok {k n : Int} (ha : IsMat ro h a x) (hl : LenOk x) : callX F1 ro 46 [.i .i64 k, .i .i64 n, a] h = some (.b (decide (saidP k n x)), h, h.length, h.length) := by
  refine g46_ok (meansX_ok F1 ro) rfl ?_
  unfold g46
  simp only [forceB_eq, ltI_eq, len_mat ha, bindO_some, asI_i, meansX_loop, eqI_eq]
  by_cases h1 : k < 1
  · simp only [dT h1, cond_true, bindO_some, dF (show ¬ saidP k n x from fun hh => by have := hh.1; omega), tupA]; exact fin_pure rfl
  by_cases h2 : 10 < k
  · simp only [dF h1, dT h2, cond_true, cond_false, bindO_some, dF (show ¬ saidP k n x from fun hh => by have := hh.2.1; omega), tupA]; exact fin_pure rfl
  by_cases h3 : n < 1
  · simp only [dF h1, dF h2, dT h3, cond_true, cond_false, bindO_some, dF (show ¬ saidP k n x from fun hh => by have := hh.2.2.1; omega), tupA]; exact fin_pure rfl
  by_cases h4 : 20 < n
  · simp only [dF h1, dF h2, dF h3, dT h4, cond_true, cond_false, bindO_some, dF (show ¬ saidP k n x from fun hh => by have := hh.2.2.2.1; omega), tupA]; exact fin_pure rfl
  by_cases h5 : (x.length : Int) = k
  case neg =>
    have e5 : (!((x.length : Int) == k)) = true := by simpa using h5
    simp only [dF h1, dF h2, dF h3, dF h4, cond_true, cond_false, bindO_some, e5, dF (show ¬ saidP k n x from fun hh => h5 hh.2.2.2.2.2), tupA]; exact fin_pure rfl
  have e5 : (!((x.length : Int) == k)) = false := by rw [h5]; simp
  simp only [dF h1, dF h2, dF h3, dF h4, cond_false, bindO_some, e5]
  have hloop := loop_if (b := fun s : Int × Mm => g46_b4 (meansX F1 ro) ro k n a s.1 s.2) (fun i => ((i : Int), (⟨h, h.length, h.length⟩ : Mm))) x.length (fun i => rowP (nthR x i) n) (.inl ⟨h, h.length, h.length⟩) (.inr (false, ⟨h, h.length, h.length⟩)) ?_ ?_ ?_
  · have e0 : ((0 : Nat) : Int) = 0 := rfl
    rw [e0] at hloop
    rw [hloop]
    by_cases hf : ∀ i, i < x.length → rowP (nthR x i) n
    · rw [if_pos hf]
      simp only [bindO_some, dT (show saidP k n x from ⟨by omega, by omega, by omega, by omega, hf, h5⟩), tupA]; exact fin_pure rfl
    · rw [if_neg hf]
      simp only [bindO_some, dF (show ¬ saidP k n x from fun hh => hf hh.2.2.2.2.1), tupA]; exact fin_pure rfl
  · simp only [g46_b4, forceB_eq, ltI_eq, ← h5, lt_no, cond_false]
  all_goals
    intro i hi hp
    obtain ⟨p, u, h1', h2', h3', h4'⟩ := at_mat (m := ⟨h, h.length, h.length⟩) rfl ha hi
    simp only [g46_b4, forceB_eq, ltI_eq, ← h5, lt_yes hi, cond_true, h1', h2', bindO_some, len_row h4', asI_i, eqI_eq, meansX_loop]
    by_cases h4 : ((nthR x i).length : Int) = n
    · have e4 : (!(((x.getD i []).length : Int) == n)) = false := by rw [show ((x.getD i []).length : Int) = n from h4]; simp
      have hl3 := rowLoop (r := (false, (⟨h, h.length, h.length⟩ : Mm))) (b0 := fun s : Int × Mm => g46_b5 (meansX F1 ro) ro (x.length : Int) n a (i : Int) s.1 s.2) (m := ⟨h, h.length, h.length⟩) (zz := nthR x i) rfl (fun j hj => by
          obtain ⟨p', h1'', h2'', h3''⟩ := at_row (m := ⟨h, h.length, h.length⟩) rfl h4' hj
          have hjn : decide ((j : Int) < n) = true := dT (by rw [← h4]; omega)
          have hll := hl.2 i hi
          simp only [g46_b5, forceB_eq, ltI_eq, hjn, cond_true, h1', h2', bindO_some, h1'', h2'', asI_i, meansX_call, cp0 bit_ok, bindP_some, asB_b]
          cases decide (bitP ((nthR x i).getD j 0))
          · rfl
          · simp only [Bool.not_true, cond_false, cond_true, forceI_eq]
            rw [wr_id' (by omega) (by omega)]; rfl) (by
          have hjn : decide (((nthR x i).length : Int) < n) = false := dF (by omega)
          simp only [g46_b5, forceB_eq, ltI_eq, hjn, cond_false])
      simp only [e4, cond_false, hl3]
      by_cases h5 : bitsP (nthR x i)
      · simp only [if_pos h5, bindO_some, forceI_eq]
        first
        | (rw [wr_id' (by omega) (by omega)]; rfl)
        | exact absurd ⟨h5, h4⟩ hp
      · first
        | exact absurd hp.1 h5
        | simp only [if_neg h5, bindO_some]
    · have e4 : (!(((x.getD i []).length : Int) == n)) = true := by
        have h4 : ¬ ((x.getD i []).length : Int) = n := h4
        simpa using h4
      first
      | exact absurd hp.2 h4
      | simp only [e4, cond_true]

/- bits -/
/-- how many of the last k bits are 1 -/
def onesT (k n : Nat) : Nat → Nat
  | 0 => 0
  | j + 1 => onesT k n j + n / 2 ^ (k - 1 - j) % 2
def pop83 (x0 : Int) : Int :=
  let x8 := wr .u64 (bitV .and .u64 (shrV .u64 x0 1) 6148914691236517205 + bitV .and .u64 x0 6148914691236517205)
  let x14 := wr .u64 (bitV .and .u64 (shrV .u64 x8 2) 3689348814741910323 + bitV .and .u64 x8 3689348814741910323)
  let x19 := bitV .and .u64 (wr .u64 (shrV .u64 x14 4 + x14)) 1085102592571150095
  let x23 := wr .u64 (x19 + shrV .u64 x19 8)
  let x27 := wr .u64 (x23 + shrV .u64 x23 16)
  let x31 := wr .u64 (x27 + shrV .u64 x27 32)
  bitV .and .i64 (wr .i64 x31) 127
theorem pop_all : ∀ k : Nat, k < 11 → ∀ n : Nat, n < 2 ^ k → pop83 (n : Int) = ((onesT k n k : Nat) : Int) := by decide +kernel
theorem pop83_ok {n : Int} : callX F1 ro 78 [.i .u64 n] h = some (.i .i64 (pop83 n), h, h.length, h.length) := by
  refine g78_ok (meansX_ok F1 ro) rfl ?_
  unfold g78
  have hc : callX F1 ro 83 [.i .u64 n] h = some (.i .i64 (pop83 n), h, h.length, h.length) := by
    refine g83_ok (meansX_ok F1 ro) rfl ?_
    unfold g83
    simp only [forceI_eq]
    exact fin_pure rfl
  simp only [meansX_call, cp0 hc, bindP_some, asI_i, tupA]
  exact fin_pure rfl
end
end Go.Proofs.Ytnalgdobglfndaa.T

/- How often foretellers are wrong: by bits, and one by one. -/
open Go.Vm
set_option linter.unusedVariables false
namespace Go.Proofs.Ytnalgdobglfndaa.T
open Go

def bt (x : List (List Int)) (j f : Nat) : Nat := ((nthR x j).getD f 0).toNat
def ser (x : List (List Int)) (f : Nat) : Nat → Nat
  | 0 => 0
  | i + 1 => 2 * ser x f i + bt x i f
def wrongN (x : List (List Int)) (f s k : Nat) : Nat → Nat
  | 0 => 0
  | j + 1 => wrongN x f s k j + (if bt x j f ≠ s / 2 ^ (k - 1 - j) % 2 then 1 else 0)
def minN (w : Nat → Nat) (d : Nat) : Nat → Nat
  | 0 => d
  | f + 1 => min (minN w d f) (w f)
def best (x : List (List Int)) (k n s : Nat) : Nat := minN (fun f => wrongN x f s k k) k n

theorem bt_of {x : List (List Int)} {k n : Nat} (hm : matP x k n) {j f : Nat} (hj : j < k) (hf : f < n) : (nthR x j).getD f 0 = ((bt x j f : Nat) : Int) ∧ bt x j f < 2 := by
  have hr := hm.1 j (by have := hm.2; omega)
  have := hr.1 f (by have := hr.2; omega)
  unfold bt
  rcases this with e | e <;> rw [e] <;> exact ⟨rfl, by decide⟩
theorem mat_len {x : List (List Int)} {k n : Nat} (hm : matP x k n) : x.length = k := by have := hm.2; omega
theorem row_len {x : List (List Int)} {k n : Nat} (hm : matP x k n) {j : Nat} (hj : j < k) : (nthR x j).length = n := by
  have := (hm.1 j (by have := hm.2; omega)).2; omega
theorem ser_lt {x : List (List Int)} {k n : Nat} (hm : matP x k n) {f : Nat} (hf : f < n) : ∀ i, i ≤ k → ser x f i < 2 ^ i
  | 0, _ => by simp [ser]
  | i + 1, hi => by
    have h1 := ser_lt hm hf i (by omega)
    have h2 := (bt_of hm (show i < k by omega) hf).2
    simp only [ser, Nat.pow_succ]; omega
/-- the digits of a series -/
theorem ser_bit {x : List (List Int)} {k n : Nat} (hm : matP x k n) {f : Nat} (hf : f < n) : ∀ i, i ≤ k → ∀ j, j < i → ser x f i / 2 ^ (i - 1 - j) % 2 = bt x j f
  | 0, _, j, hj => by omega
  | i + 1, hi, j, hj => by
    have h2 := (bt_of hm (show i < k by omega) hf).2
    by_cases e : j = i
    · subst e
      simp only [ser, Nat.add_sub_cancel, Nat.sub_self, Nat.pow_zero, Nat.div_one]; omega
    · have ih := ser_bit hm hf i (by omega) j (by omega)
      rw [show i + 1 - 1 - j = (i - 1 - j) + 1 by omega, Nat.pow_succ, Nat.mul_comm, ← Nat.div_div_eq_div_mul]
      have : ser x f (i + 1) / 2 = ser x f i := by simp only [ser]; omega
      rw [this, ih]
theorem xor_bit (a b q : Nat) : (a ^^^ b) / 2 ^ q % 2 = if a / 2 ^ q % 2 ≠ b / 2 ^ q % 2 then 1 else 0 := by
  have h := Nat.testBit_xor a b q
  simp only [Nat.testBit_eq_decide_div_mod_eq] at h
  have ha := Nat.mod_two_eq_zero_or_one (a / 2 ^ q)
  have hb := Nat.mod_two_eq_zero_or_one (b / 2 ^ q)
  have hc := Nat.mod_two_eq_zero_or_one ((a ^^^ b) / 2 ^ q)
  rcases ha with ha | ha <;> rcases hb with hb | hb <;> rcases hc with hc | hc <;> rw [ha, hb, hc] at h <;> simp_all
theorem ones_wrong {x : List (List Int)} {k n : Nat} (hm : matP x k n) {f : Nat} (hf : f < n) (s : Nat) : ∀ j, j ≤ k → onesT k (ser x f k ^^^ s) j = wrongN x f s k j
  | 0, _ => rfl
  | j + 1, hj => by
    simp only [onesT, wrongN, ones_wrong hm hf s j (by omega), xor_bit, ser_bit hm hf k (Nat.le_refl _) j (by omega)]
theorem wrong_le (x : List (List Int)) (f s k : Nat) : ∀ j, wrongN x f s k j ≤ j
  | 0 => Nat.le_refl _
  | j + 1 => by
    have := wrong_le x f s k j
    simp only [wrongN]
    split <;> omega
theorem minN_le {w : Nat → Nat} {d : Nat} : ∀ n, minN w d n ≤ d
  | 0 => Nat.le_refl _
  | n + 1 => Nat.le_trans (Nat.min_le_left _ _) (minN_le n)
theorem minN_congr {w w' : Nat → Nat} {d : Nat} : ∀ n, (∀ f, f < n → w f = w' f) → minN w d n = minN w' d n
  | 0, _ => rfl
  | n + 1, h => by simp only [minN]; rw [minN_congr n fun f hf => h f (by omega), h n (by omega)]
theorem minN_base {w : Nat → Nat} {d d' : Nat} (hw : ∀ f, w f ≤ d) (hd : d ≤ d') : ∀ n, 0 < n → minN w d' n = minN w d n
  | 1, _ => by simp only [minN]; have := hw 0; omega
  | n + 2, _ => by
    have := minN_base hw hd (n + 1) (by omega)
    show min (minN w d' (n + 1)) _ = min (minN w d (n + 1)) _
    rw [this]

section
variable {ro : List ABlk} {h hp : Heap} {a b v : AVal} {x : List (List Int)} {z : List Int}

theorem bit_xor64 {a c : Nat} (ha : a < 1024) (hc : c < 1024) : bitV .xor .i64 a c = ((a ^^^ c : Nat) : Int) := by
  have hx : a ^^^ c < 2 ^ 10 := Nat.xor_lt_two_pow (n := 10) ha hc
  have e : bitV .xor .i64 a c = IntKind.i64.wrap (BitVec.ofInt 64 (a : Int) ^^^ BitVec.ofInt 64 (c : Int)).toNat := by
    show numA (Go.Vm.bits .xor .i64 a c) = _
    show numA (some (mkI .i64 _)) = _
    rw [mkI_eq]; rfl
  have e1 : (BitVec.ofInt 64 (a : Int) ^^^ BitVec.ofInt 64 (c : Int)).toNat = a ^^^ c := by
    rw [BitVec.toNat_xor]
    have h1 : ∀ n : Nat, n < 1024 → (BitVec.ofInt 64 (n : Int)).toNat = n := fun n hn => by
      simp; omega
    rw [h1 a ha, h1 c hc]
  rw [e, e1, wrap_i64_in _ (by omega) (by omega)]
theorem wr_u64_id {n : Nat} (hn : n < 1024) : wr .u64 (n : Int) = (n : Int) := by
  show IntKind.u64.wrap (n : Int) = _
  rw [IntKind.wrap_u64]; omega
theorem mxF {a c : Nat} : mxV false (a : Int) (c : Int) = ((min a c : Nat) : Int) := by
  unfold mxV
  simp only [Bool.false_eq_true, if_false]
  split <;> omega
theorem shr_nat {n q : Nat} (hq : q ≤ 60) : shrV .i64 (n : Int) (q : Int) = ((n / 2 ^ q : Nat) : Int) := by
  unfold shrV
  have e : min ((q : Int)).toNat (IntKind.bits .i64) = q := by
    have : IntKind.bits .i64 = 64 := rfl
    omega
  rw [e]
  show Int.fdiv (n : Int) ((2 ^ q : Nat) : Int) = _
  rw [Int.fdiv_eq_ediv_of_nonneg _ (Int.natCast_nonneg _)]
  rfl
theorem shl_nat : ∀ k, k < 11 → shlV .i64 1 ((k : Nat) : Int) = ((2 ^ k : Nat) : Int) := by decide
theorem fewest_ok {k n s : Nat} (hk : k ≤ 10) (hm : matP x k n) (hn : n ≤ 20) (hs : s < 2 ^ k) (hv : IsRow ro h v z) (hz : z.length = n) (hzz : ∀ f, f < n → z.getD f 0 = ((ser x f k : Nat) : Int)) :
    callX F1 ro 69 [v, .i .i64 (s : Int)] h = some (.i .i64 ((minN (fun f => onesT k (ser x f k ^^^ s) k) 10 n : Nat) : Int), h, h.length, h.length) := by
  refine g69_ok (meansX_ok F1 ro) rfl ?_
  unfold g69
  simp only [len_row hv, bindO_some, asI_i, meansX_loop]
  have hk2 : 2 ^ k ≤ 1024 := Nat.le_trans (Nat.pow_le_pow_right (by omega) hk) (by decide)
  have hloop := loop_run (b := fun s1 : Int × Int × Mm => g69_b0 (meansX F1 ro) ro (s : Int) v (z.length : Int) s1.1 s1.2.1 s1.2.2) (fun i => (((minN (fun f => onesT k (ser x f k ^^^ s) k) 10 i : Nat) : Int), (i : Int), (⟨h, h.length, h.length⟩ : Mm))) n
    (r0 := (((minN (fun f => onesT k (ser x f k ^^^ s) k) 10 n : Nat) : Int), (⟨h, h.length, h.length⟩ : Mm))) ?_ ?_
  · have e0 : ((0 : Nat) : Int) = 0 := rfl
    have e1 : ((minN (fun f => onesT k (ser x f k ^^^ s) k) 10 0 : Nat) : Int) = 10 := rfl
    rw [e0, e1] at hloop
    rw [hloop]
    simp only [bindO_some, tupA]
    exact fin_pure rfl
  · simp only [g69_b0, forceB_eq, ltI_eq, hz, lt_no, cond_false]
  · intro i hi
    obtain ⟨p, h1, h2, h3⟩ := at_row (m := ⟨h, h.length, h.length⟩) rfl hv (show i < z.length by omega)
    rw [hzz i hi] at h2
    have hsr := ser_lt hm hi k (Nat.le_refl _)
    have hx : ser x i k ^^^ s < 2 ^ k := Nat.xor_lt_two_pow hsr hs
    simp only [g69_b0, forceB_eq, ltI_eq, hz, lt_yes hi, cond_true, h1, h2, bindO_some, asI_i, forceI_eq, bit_xor64 (show ser x i k < 1024 by omega) (show s < 1024 by omega), wr_u64_id (show ser x i k ^^^ s < 1024 by omega), meansX_call, cp0 pop83_ok, bindP_some, pop_all k (by omega) _ hx, mxF]
    rw [wr_next (by omega)]; rfl

end
end Go.Proofs.Ytnalgdobglfndaa.T

/- Regret: the program's and the reference's. -/
open Go.Vm
set_option linter.unusedVariables false
namespace Go.Proofs.Ytnalgdobglfndaa.T
open Go

def sumN (w : Nat → Nat) : Nat → Nat
  | 0 => 0
  | s + 1 => sumN w s + w s
theorem sumN_congr {w w' : Nat → Nat} : ∀ n, (∀ s, s < n → w s = w' s) → sumN w n = sumN w' n
  | 0, _ => rfl
  | n + 1, h => by simp only [sumN]; rw [sumN_congr n fun s hs => h s (by omega), h n (by omega)]
theorem sumN_add (w w' : Nat → Nat) : ∀ n, sumN (fun s => w s + w' s) n = sumN w n + sumN w' n
  | 0 => rfl
  | n + 1 => by simp only [sumN, sumN_add w w' n]; omega
theorem sumN_le {w w' : Nat → Nat} : ∀ n, (∀ s, s < n → w s ≤ w' s) → sumN w n ≤ sumN w' n
  | 0, _ => Nat.le_refl _
  | n + 1, h => by simp only [sumN]; have := sumN_le n (fun s hs => h s (by omega)); have := h n (by omega); omega
theorem sumN_const (c : Nat) : ∀ n, sumN (fun _ => c) n = c * n
  | 0 => rfl
  | n + 1 => by simp only [sumN, sumN_const c n, Nat.mul_succ]
/-- half of the series have a given bit -/
theorem half_bits : ∀ k : Nat, k < 11 → ∀ q : Nat, q < k → 2 * sumN (fun s => s / 2 ^ q % 2) (2 ^ k) = 2 ^ k := by decide +kernel
theorem half_ne {k q b : Nat} (hk : k < 11) (hq : q < k) (hb : b < 2) : sumN (fun s => if b ≠ s / 2 ^ q % 2 then 1 else 0) (2 ^ k) = 2 ^ (k - 1) := by
  have h1 := half_bits k hk q hq
  have hp : 2 ^ k = 2 * 2 ^ (k - 1) := by rw [← Nat.pow_succ']; congr 1; omega
  have h2 : sumN (fun s => (if b ≠ s / 2 ^ q % 2 then 1 else 0)) (2 ^ k) = if b = 0 then sumN (fun s => s / 2 ^ q % 2) (2 ^ k) else 2 ^ k - sumN (fun s => s / 2 ^ q % 2) (2 ^ k) := by
    by_cases e : b = 0
    · rw [if_pos e]
      refine sumN_congr _ fun s _ => ?_
      have := Nat.mod_two_eq_zero_or_one (s / 2 ^ q)
      split <;> omega
    · rw [if_neg e]
      have h3 : sumN (fun s => (if b ≠ s / 2 ^ q % 2 then 1 else 0) + s / 2 ^ q % 2) (2 ^ k) = 2 ^ k := by
        rw [sumN_congr (w' := fun _ => 1) _ fun s _ => ?_, sumN_const]
        · omega
        · have := Nat.mod_two_eq_zero_or_one (s / 2 ^ q)
          split <;> omega
      rw [sumN_add] at h3
      omega
  rw [h2]
  split <;> omega
theorem sum_wrong {x : List (List Int)} {k n : Nat} (hk : k < 11) (hm : matP x k n) {f : Nat} (hf : f < n) : ∀ j, j ≤ k → sumN (fun s => wrongN x f s k j) (2 ^ k) = j * 2 ^ (k - 1)
  | 0, _ => by simp only [wrongN]; rw [sumN_const]; omega
  | j + 1, hj => by
    have h1 := sum_wrong hk hm hf j (by omega)
    have h2 := half_ne (q := k - 1 - j) hk (by omega) (bt_of hm (show j < k by omega) hf).2
    simp only [wrongN]
    rw [sumN_add, h1, h2, Nat.succ_mul]
theorem best_le {x : List (List Int)} {k n s f : Nat} (hf : f < n) : best x k n s ≤ wrongN x f s k k := by
  unfold best
  have : ∀ n, f < n → minN (fun f => wrongN x f s k k) k n ≤ wrongN x f s k k := by
    intro n
    induction n with
    | zero => intro h; omega
    | succ n ih =>
      intro h
      simp only [minN]
      by_cases e : f = n
      · subst e; exact Nat.min_le_right _ _
      · exact Nat.le_trans (Nat.min_le_left _ _) (ih (by omega))
  exact this n hf
/-- how often the best one is wrong in all series -/
def bestSum (x : List (List Int)) (k n : Nat) : Nat := sumN (best x k n) (2 ^ k)
theorem bestSum_le {x : List (List Int)} {k n : Nat} (hk : k < 11) (hm : matP x k n) (hn : 0 < n) : bestSum x k n ≤ k * 2 ^ (k - 1) := by
  rw [← sum_wrong hk hm hn k (Nat.le_refl _)]
  exact sumN_le _ fun s _ => best_le hn
/-- what Regret answers -/
def regV (x : List (List Int)) (k n : Int) : AVal :=
  if saidP k n x then .tup [ratV (k.toNat * 2 ^ (k.toNat - 1) - bestSum x k.toNat n.toNat) (2 ^ k.toNat), .i .i64 0] else .tup [rV 0 0, .i .i64 2]
theorem rat_two (a b : Nat) : ratV (2 * a) (2 * b) = ratV a b := by
  unfold ratV
  rw [Nat.gcd_mul_left, Nat.mul_div_mul_left _ _ (by omega), Nat.mul_div_mul_left _ _ (by omega)]

section
variable {ro : List ABlk} {h hp : Heap} {a b v : AVal} {x : List (List Int)} {z : List Int}

theorem pow10 {k : Nat} (hk : k ≤ 10) : 2 ^ k ≤ 1024 := Nat.le_trans (Nat.pow_le_pow_right (by omega) hk) (by decide)
theorem sum_small {w : Nat → Nat} {c : Nat} (hw : ∀ s, w s ≤ 10) (hc : c ≤ 1024) : sumN w c ≤ 10240 := by
  have := sumN_le (w := w) (w' := fun _ => 10) c (fun s _ => hw s)
  rw [sumN_const] at this; omega
theorem best_small (x : List (List Int)) {k n : Nat} (hk : k ≤ 10) (s : Nat) : best x k n s ≤ 10 := Nat.le_trans (minN_le n) hk

/-- the series of the foretellers, as far as they are made: i nights, and of the next one f foretellers -/
def serL (x : List (List Int)) (n i f : Nat) : List AVal := (List.range n).map fun j : Nat => .i .i64 ((ser x j (if j < f then i + 1 else i) : Nat) : Int)
theorem serL_len (x : List (List Int)) (n i f : Nat) : (serL x n i f).length = n := by simp [serL]
theorem serL_get {x : List (List Int)} {n i f j : Nat} (hj : j < n) : (serL x n i f).getD j und = .i .i64 ((ser x j (if j < f then i + 1 else i) : Nat) : Int) := by simp [serL, List.getD, hj]
theorem serL_set {x : List (List Int)} {n i f : Nat} (hf : f < n) : (serL x n i f).set f (.i .i64 ((ser x f (i + 1) : Nat) : Int)) = serL x n i (f + 1) := by
  refine List.ext_getElem (by simp [serL]) fun j h1 h2 => ?_
  have hj : j < n := by simpa [serL] using h2
  rw [List.getElem_set]
  by_cases e : f = j
  · subst e
    simp [serL]
  · rw [if_neg e]
    have : (j < f ↔ j < f + 1) := by omega
    simp [serL, this]
theorem serL_end {x : List (List Int)} {n i : Nat} : serL x n i n = serL x n (i + 1) 0 := by
  refine List.ext_getElem (by simp [serL]) fun j h1 h2 => ?_
  have hj : j < n := by simpa [serL] using h2
  simp [serL, hj]
theorem holds_row {hp : Heap} {q n : Nat} {vs : List AVal} {z : List Int} (a : Holds hp q vs) (hz : vs = z.map (AVal.i .i64)) (hn : z.length = n) {cap : Cap} : IsRow ro hp (.sl ⟨false, q, 0⟩ n cap) z := by
  subst hz; subst hn
  obtain ⟨blk, h1, h2, h3⟩ := a
  refine .inr ⟨_, cap, blk, rfl, rdB_heap h1 0, by simpa using (Nat.le_of_eq h2.symm), fun j hj => ?_⟩
  rw [show (0 + j) = j by omega, h3 j (by simpa using hj), map_getD hj]

theorem Regret_ok {k n : Int} (ha : IsMat ro h a x) (hl : LenOk x) : callX F1 ro 35 [.i .i64 k, .i .i64 n, a] h = some (regV x k n, h, h.length, h.length) := by
  refine g35_ok (meansX_ok F1 ro) rfl ?_
  unfold g35
  rw [al_ok]
  have kp : Keep h (h ++ [some (blkOf 42 [(AVal.i IntKind.i64 0), (AVal.i IntKind.i64 0)])]) := Keep.app _
  have ha1 := mat_by ha kp
  have cpk : ∀ {f : Nat} {a : List AVal} {v : AVal}, callX F1 ro f a (h ++ [some (blkOf 42 [(AVal.i IntKind.i64 0), (AVal.i IntKind.i64 0)])]) = some (v, _, _, _) → callM (callX F1 ro) ⟨h ++ [some (blkOf 42 [(AVal.i IntKind.i64 0), (AVal.i IntKind.i64 0)])], h.length, h.length⟩ f a = some (v, ⟨h ++ [some (blkOf 42 [(AVal.i IntKind.i64 0), (AVal.i IntKind.i64 0)])], h.length, h.length⟩) := fun e => cp e (by simp) (by simp)
  have hno : ¬ saidP k n x → (bindO ((fillA [(AVal.i IntKind.i64 0), (AVal.i IntKind.i64 0)] []).map AVal.agg) fun v37 =>
    bindP (stepM ro ⟨h ++ [some (blkOf 42 [(AVal.i IntKind.i64 0), (AVal.i IntKind.i64 0)])], h.length, h.length⟩ (.st 2 (.c (.p (some ⟨false, h.length, 0⟩))) (.c v37))) fun vn m_4 =>
    bindO (ldM ro m_4 false 2 (.p (some ⟨false, h.length, 0⟩))) fun vr =>
    finM h.length (tupA [vr, (.i .i64 2)]) m_4) = some (regV x k n, h, h.length, h.length) := fun hs => by
    obtain ⟨hp', h1, h2, h3, h4, h5⟩ := put2 (ro := ro) (h := h) (Holds.new h 42 [(AVal.i IntKind.i64 0), (AVal.i IntKind.i64 0)]) rfl (Nat.le_refl _) kp (u := rV 0 0) rfl
    simp only [fill0, bindO_some, h1, bindP_some, h2, tupA]
    have e4 : regV x k n = .tup [rV 0 0, .i .i64 2] := by unfold regV; rw [if_neg hs]
    rw [e4]
    exact fin_keep h5 rfl
  simp only [bindP_some, meansX_call, forceB_eq, ltI_eq]
  by_cases h1 : k < 1
  · simp only [dT h1, cond_true, bindO_some]; exact hno fun hh => by have := hh.1; omega
  by_cases h2 : 10 < k
  · simp only [dF h1, dT h2, cond_true, cond_false, bindO_some]; exact hno fun hh => by have := hh.2.1; omega
  by_cases h3 : n < 1
  · simp only [dF h1, dF h2, dT h3, cond_true, cond_false, bindO_some]; exact hno fun hh => by have := hh.2.2.1; omega
  by_cases h4 : 20 < n
  · simp only [dF h1, dF h2, dF h3, dT h4, cond_true, cond_false, bindO_some]; exact hno fun hh => by have := hh.2.2.2.1; omega
  simp only [dF h1, dF h2, dF h3, dF h4, cond_false, bindO_some, cpk (areSaid_ok (k := k) (n := n) ha1 hl), bindP_some, asB_b]
  by_cases hm : matP x k n
  case neg => simp only [dF hm, Bool.not_false, cond_true]; exact hno fun hh => hm hh.2.2.2.2
  have hs : saidP k n x := ⟨by omega, by omega, by omega, by omega, hm⟩
  simp only [dT hm, Bool.not_true, cond_false]
  clear hno
  obtain ⟨K, rfl⟩ : ∃ K : Nat, k = (K : Int) := ⟨k.toNat, by omega⟩
  obtain ⟨N, rfl⟩ : ∃ N : Nat, n = (N : Int) := ⟨n.toNat, by omega⟩
  have hK : K ≤ 10 := by omega
  have hp2 := pow10 hK
  rw [mk_ok (n := N) (v := .i .i64 0) (by omega) (by omega)]
  simp only [bindP_some, len_mat ha, bindO_some, asI_i, meansX_loop]
  generalize hc0 : h ++ [some (blkOf 42 [(AVal.i IntKind.i64 0), (AVal.i IntKind.i64 0)])] = h0 at *
  have hl0 : h0.length = h.length + 1 := by rw [← hc0]; simp
  -- the series are made
  have hx := loop_all (b := fun s : Int × Mm => g35_b4 (meansX F1 ro) ro (K : Int) (.p (some ⟨false, h.length, 0⟩)) (.sl ⟨false, h0.length, 0⟩ N (.known N)) a (x.length : Int) s.1 s.2) K
    (fun i m => ∃ hp, m = ⟨hp, h.length, h.length⟩ ∧ Keep h0 hp ∧ Holds hp h0.length (serL x N i 0)) ?_ ?_ K 0 ⟨h0 ++ [some (newBlk 3 (.i .i64 0) N)], h.length, h.length⟩ (by omega) ⟨_, rfl, Keep.app _, ?_⟩
  · obtain ⟨m', hrun, hI⟩ := hx
    obtain ⟨hp, rfl, kp0, hh⟩ := hI
    have kph := kp.trans kp0
    have e0 : ((0 : Nat) : Int) = 0 := rfl
    rw [e0] at hrun
    have e3 : (!decide ((K : Int) < Int.ofNat 0)) = true := nneg _
    have hrow : IsRow ro hp (.sl ⟨false, h0.length, 0⟩ N (.known N)) ((List.range N).map fun j : Nat => ((ser x j K : Nat) : Int)) := holds_row hh (by simp [serL]) (by simp)
    have hloop := loop_run (b := fun s1 : Int × Int × Mm => g35_b6 (meansX F1 ro) ro (K : Int) (.p (some ⟨false, h.length, 0⟩)) (.sl ⟨false, h0.length, 0⟩ N (.known N)) ((2 ^ K : Nat) : Int) s1.1 s1.2.1 s1.2.2) (fun i => (((sumN (best x K N) i : Nat) : Int), (i : Int), (⟨hp, h.length, h.length⟩ : Mm))) (2 ^ K)
      (r0 := (((bestSum x K N : Nat) : Int), (⟨hp, h.length, h.length⟩ : Mm))) ?_ ?_
    · have e1 : ((sumN (best x K N) 0 : Nat) : Int) = 0 := rfl
      rw [e0, e1] at hloop
      have hle := bestSum_le (show K < 11 by omega) hm (show 0 < N by omega)
      have hpk : 2 ^ K = 2 * 2 ^ (K - 1) := by rw [← Nat.pow_succ']; congr 1; omega
      have hkk : K * 2 ^ (K - 1) ≤ 10240 := Nat.le_trans (Nat.mul_le_mul hK (pow10 (show K - 1 ≤ 10 by omega))) (by omega)
      have hk2 : K * 2 ^ K = 2 * (K * 2 ^ (K - 1)) := by rw [hpk, Nat.mul_left_comm]
      have w1 : wr .i64 ((K : Int) * ((2 ^ K : Nat) : Int)) = ((K * 2 ^ K : Nat) : Int) := wr_mul (by omega)
      have w2 : wr .i64 (2 * ((bestSum x K N : Nat) : Int)) = ((2 * bestSum x K N : Nat) : Int) := by rw [wr_id' (by omega) (by omega)]; omega
      have w3 : wr .i64 (((K * 2 ^ K : Nat) : Int) - ((2 * bestSum x K N : Nat) : Int)) = ((2 * (K * 2 ^ (K - 1) - bestSum x K N) : Nat) : Int) := by rw [wr_id' (by omega) (by omega)]; omega
      have w4 : wr .i64 (2 * ((2 ^ K : Nat) : Int)) = ((2 * 2 ^ K : Nat) : Int) := by rw [wr_id' (by omega) (by omega)]; omega
      have hcell : Holds hp h.length [(AVal.i IntKind.i64 0), (AVal.i IntKind.i64 0)] := by
        have := (Holds.new h 42 [(AVal.i IntKind.i64 0), (AVal.i IntKind.i64 0)])
        rw [hc0] at this
        exact this.by kp0
      obtain ⟨hp', h1, h2, h3, h4, h5⟩ := put2 (ro := ro) (h := h) hcell rfl (Nat.le_refl _) kph (u := ratV (K * 2 ^ (K - 1) - bestSum x K N) (2 ^ K)) rfl
      have hlow := cp (l := h.length) (p := h.length) (lowest_ok (ro := ro) (h := hp) (n := 2 * (K * 2 ^ (K - 1) - bestSum x K N)) (d := 2 * 2 ^ K) (by have := Nat.two_pow_pos K; omega) (by omega) (by omega)) kph.1 kph.1
      rw [rat_two] at hlow
      simp only [mat_len hm] at hrun ⊢
      simp only [hrun, bindO_some, forceI_eq, e3, chk_true, shl_nat K (by omega), hloop, w1, w2, w3, w4, hlow, bindP_some, h1, h2, tupA]
      have e4 : regV x (K : Int) (N : Int) = .tup [ratV (K * 2 ^ (K - 1) - bestSum x K N) (2 ^ K), .i .i64 0] := by unfold regV; rw [if_pos hs]; rfl
      rw [e4]
      exact fin_keep h5 rfl
    · simp only [g35_b6, forceB_eq, ltI_eq, lt_no, cond_false]; rfl
    · intro s hs2
      have hsm := sum_small (fun s => best_small x (n := N) hK s) (show s ≤ 1024 by omega)
      have hb := best_small x (n := N) hK s
      have hf := fewest_ok (s := s) hK hm (by omega) hs2 hrow (by simp) (fun f hf => by simp [List.getD, hf])
      have he : minN (fun f => onesT K (ser x f K ^^^ s) K) 10 N = best x K N s := by
        unfold best
        rw [minN_congr N (fun f hf => ones_wrong hm hf s K (Nat.le_refl _))]
        exact minN_base (fun f => wrong_le x f s K K) hK N (by omega)
      rw [he] at hf
      simp only [g35_b6, forceB_eq, ltI_eq, lt_yes hs2, cond_true, meansX_call, cp (l := h.length) (p := h.length) hf kph.1 kph.1, bindP_some, asI_i, forceI_eq]
      rw [wr_next (by omega), wr_id' (by omega) (by omega)]
      rfl
  · rintro i m hi ⟨hp, rfl, kp0, hh⟩
    obtain ⟨p, u, h1', hld, h4'⟩ := at_matK ha1 (show i < x.length by rw [mat_len hm]; exact hi)
    have h2' := (hld (l := h.length) (q := h.length) kp0).1
    have hxl := mat_len hm
    have hrl := row_len hm hi
    have hx := loop_all (b := fun s : Int × Mm => g35_b5 (meansX F1 ro) ro (K : Int) (.p (some ⟨false, h.length, 0⟩)) (.sl ⟨false, h0.length, 0⟩ N (.known N)) a (x.length : Int) (i : Int) u (N : Int) s.1 s.2) N
      (fun f m => ∃ hp', m = ⟨hp', h.length, h.length⟩ ∧ Keep h0 hp' ∧ Holds hp' h0.length (serL x N i f)) ?_ ?_ N 0 ⟨hp, h.length, h.length⟩ (by omega) ⟨_, rfl, kp0, hh⟩
    · obtain ⟨m', hrun, hI⟩ := hx
      obtain ⟨hp', rfl, kp1, hh1⟩ := hI
      have e0 : ((0 : Nat) : Int) = 0 := rfl
      rw [e0] at hrun
      refine ⟨_, ?_, hp', rfl, kp1, by rw [← serL_end]; exact hh1⟩
      have hlr := len_row h4'
      rw [show ((x.getD i []).length : Int) = (N : Int) from by rw [show (x.getD i []).length = N from hrl]] at hlr
      simp only [g35_b4, forceB_eq, ltI_eq, hxl, lt_yes hi, cond_true, h1', h2', bindO_some, hlr, asI_i, meansX_loop] at hrun ⊢
      simp only [hrun, bindO_some, forceI_eq]
      rw [wr_next (by omega)]
    · rintro f m hf ⟨hp', rfl, kp1, hh1⟩
      obtain ⟨p', g1, gld⟩ := at_rowK h4' (show f < (nthR x i).length by rw [hrl]; exact hf)
      have g2 := (gld (l := h.length) (q := h.length) kp1).1
      rw [show (x.getD i []).getD f 0 = (nthR x i).getD f 0 from rfl] at g2
      obtain ⟨hb1, hb2⟩ := bt_of hm hi hf
      rw [hb1] at g2
      have g4 := ixS_eq (q := ⟨false, h0.length, 0⟩) (cap := .known N) hf
      have g5 := hh1.one (ro := ro) (l := h.length) (p := h.length) (k := f) (by rw [serL_len]; exact hf)
      rw [serL_get hf, if_neg (by omega)] at g5
      have hsl := ser_lt hm hf i (by omega)
      have hpi : 2 ^ i ≤ 1024 := pow10 (by omega)
      have w1 : wr .i64 (2 * ((ser x f i : Nat) : Int)) = ((2 * ser x f i : Nat) : Int) := by rw [wr_id' (by omega) (by omega)]; omega
      have w2 : wr .i64 (((2 * ser x f i : Nat) : Int) + ((bt x i f : Nat) : Int)) = ((ser x f (i + 1) : Nat) : Int) := by rw [wr_id' (by omega) (by omega)]; simp only [ser]; omega
      obtain ⟨hp2, s1, s2, s3, s4, s5⟩ := hh1.set (ro := ro) (h := h) (k := f) (v := .i .i64 ((ser x f (i + 1) : Nat) : Int)) (by rw [serL_len]; exact hf) rfl rfl rfl (by omega) (kp.trans kp1)
      rw [Nat.mul_one] at s1
      have k2 : Keep h0 hp2 := ⟨by rw [s3]; exact kp1.1, fun j hj => by rw [s4 j (by omega)]; exact kp1.2 j hj⟩
      refine ⟨_, ?_, hp2, rfl, k2, by rw [← serL_set hf]; exact s2⟩
      simp only [g35_b5, forceB_eq, ltI_eq, lt_yes hf, cond_true, g1, g2, bindO_some, asI_i, g4, g5, forceI_eq, w1, w2, s1, bindP_some]
      rw [wr_next (by omega)]
    · rintro m ⟨hp', rfl, -⟩
      simp only [g35_b5, forceB_eq, ltI_eq, lt_no, cond_false]
  · rintro m ⟨hp, rfl, -⟩
    simp only [g35_b4, forceB_eq, ltI_eq, mat_len hm, lt_no, cond_false]
  · have e : rep [(AVal.i .i64 0)] N = serL x N 0 0 := by
      refine List.ext_getElem (by rw [rep_len, serL_len]) fun j h1 h2 => ?_
      have hj : j < N := by rw [rep_len] at h1; exact h1
      have e1 := rep_get (AVal.i .i64 0) N j hj
      have e2 := serL_get (x := x) (i := 0) (f := 0) hj
      rw [if_neg (by omega)] at e2
      rw [List.getD_eq_getElem?_getD, List.getElem?_eq_getElem h1] at e1
      rw [List.getD_eq_getElem?_getD, List.getElem?_eq_getElem h2] at e2
      simp only [Option.getD_some] at e1 e2
      rw [e1, e2]; rfl
    show Holds (h0 ++ [some (blkOf 3 (rep [(AVal.i .i64 0)] N))]) _ _
    rw [e]
    exact Holds.new h0 3 _
theorem regV_form (x : List (List Int)) (k n : Int) : ∃ p q e, regV x k n = .tup [rV p q, .i .i64 e] := by
  unfold regV
  split
  · exact ⟨_, _, _, rfl⟩
  · exact ⟨_, _, _, rfl⟩
theorem seq_same (p q : Int) : evP .e (.seq false [0, 1] (.c (rV p q)) (.c (rV p q))) = some (.b true) := by
  simp [evP, ev_seq, opd, seqA, lget, kEq_self, eqI_eq]
theorem Fits.lens {x : List (List Int)} (hf : Fits x) : LenOk x := ⟨hf.1, fun i hi => by
  have : nthR x i ∈ x := by
    have : nthR x i = x[i] := by simp [nthR, List.getD, hi]
    rw [this]; exact List.getElem_mem hi
  exact (hf.2 _ this).1⟩
theorem nil_row (h : Heap) : IsRow ro h .nsl [] := .inl ⟨rfl, rfl⟩

end
end Go.Proofs.Ytnalgdobglfndaa.T

/- What points are: the program's checks and the reference's. -/
open Go.Vm
set_option linter.unusedVariables false
namespace Go.Proofs.Ytnalgdobglfndaa.T
open Go

def coordP (z : List Int) : Prop := ∀ j, j < z.length → -100 ≤ z.getD j 0 ∧ z.getD j 0 ≤ 100
instance (z : List Int) : Decidable (coordP z) := inferInstanceAs (Decidable (∀ j, j < z.length → -100 ≤ z.getD j 0 ∧ z.getD j 0 ≤ 100))
def pointP (z : List Int) : Prop := 1 ≤ z.length ∧ z.length ≤ 6 ∧ coordP z
instance (z : List Int) : Decidable (pointP z) := inferInstanceAs (Decidable (_ ∧ _))
def signP (n : Int) : Prop := n = 1 ∨ n = -1
instance (n : Int) : Decidable (signP n) := inferInstanceAs (Decidable (_ ∨ _))
def ptP (x : List (List Int)) (z : List Int) (i : Nat) : Prop := (nthR x i).length = (nthR x 0).length ∧ pointP (nthR x i) ∧ signP (z.getD i 0)
instance (x : List (List Int)) (z : List Int) (i : Nat) : Decidable (ptP x z i) := inferInstanceAs (Decidable (_ ∧ _))
def ptsP (x : List (List Int)) (z : List Int) : Prop := 0 < x.length ∧ z.length = x.length ∧ ∀ i, i < x.length → ptP x z i
instance (x : List (List Int)) (z : List Int) : Decidable (ptsP x z) := inferInstanceAs (Decidable (_ ∧ _ ∧ ∀ i, i < x.length → ptP x z i))
section
variable {ro : List ABlk} {h : Heap} {a b : AVal} {x : List (List Int)} {z : List Int}

end
end Go.Proofs.Ytnalgdobglfndaa.T

/- Perceptron: the program's and the reference's. -/
open Go.Vm
set_option linter.unusedVariables false
namespace Go.Proofs.Ytnalgdobglfndaa.T
open Go

def ints (w : List Int) : List AVal := w.map (AVal.i .i64)
/-- the sum of the coordinates times the weights -/
def dotN (p w : List Int) : Nat → Int
  | 0 => 0
  | k + 1 => wr .i64 (dotN p w k + wr .i64 (p.getD k 0 * w.getD k 0))
/-- is the point at which a round is, on its side? -/
def hitP (x : List (List Int)) (z : List Int) (i : Nat) (w : List Int) : Prop := 0 < wr .i64 (z.getD i 0 * dotN (nthR x i) w w.length)
instance (x : List (List Int)) (z : List Int) (i : Nat) (w : List Int) : Decidable (hitP x z i w) := inferInstanceAs (Decidable (_ < _))
section
variable {ro : List ABlk} {h hp : Heap} {a b v : AVal} {x : List (List Int)} {z : List Int}

theorem Holds.wr {b k : Nat} {vs : List AVal} {v : AVal} (a : Holds hp b vs) (hk : k < vs.length) (hv : v.one = true) (hc : v.cells = [v]) (hn : nonp [v] = true) (hL : h.length ≤ b) (kp : Keep h hp) :
    ∃ hp', writesM ro [] [(⟨false, b, 0 + k⟩, AVal.cells v)] ⟨hp, h.length, h.length⟩ = some ⟨hp', h.length, h.length⟩ ∧ Holds hp' b (vs.set k v) ∧ hp'.length = hp.length ∧ (∀ i, i ≠ b → hp'[i]? = hp[i]?) ∧ Keep h hp' := by
  obtain ⟨blk, h1, h2, h3⟩ := a
  refine ⟨hp.set b (some { blk with c := blk.c.set (0 + k) v }), ?_, ⟨_, lget_set h1 _, by simpa using h2, fun j hj => ?_⟩, by simp, fun i hi => List.getElem?_set_ne (Ne.symm hi), kp.set hL _⟩
  · rw [hc, wr_heap h1 (by omega) hv hn, Nat.min_eq_left hL]
  · show (blk.c.set (0 + k) v).get j = _
    rw [get_set]
    simp only [List.length_set] at hj
    by_cases e : 0 + k = j
    · have e' : k = j := by omega
      subst e'; simp [List.getD, hj]
    · rw [if_neg e, h3 j hj]
      simp [List.getD, List.getElem?_set_ne (show k ≠ j by omega)]
theorem keep_o {h0 hp' : Heap} {q : Nat} (k : Keep h0 hp) (hq : h0.length ≤ q) (hl : hp'.length = hp.length) (ho : ∀ i, i ≠ q → hp'[i]? = hp[i]?) : Keep h0 hp' :=
  ⟨by rw [hl]; exact k.1, fun j hj => by rw [ho j (by omega)]; exact k.2 j hj⟩
end
end Go.Proofs.Ytnalgdobglfndaa.T

/- Perceptron whole; the law that compares both. -/
open Go.Vm
set_option linter.unusedVariables false
namespace Go.Proofs.Ytnalgdobglfndaa.T
open Go

section
variable {ro : List ABlk} {h hp : Heap} {a b v : AVal} {x : List (List Int)} {z : List Int}

end
end Go.Proofs.Ytnalgdobglfndaa.T

/- Goals: what they are, their halves, room, guess. -/
open Go.Vm
set_option linter.unusedVariables false
namespace Go.Proofs.Ytnalgdobglfndaa.T
open Go

def goalP (k : Int) (z : List Int) : Prop := 1 ≤ k ∧ k ≤ 10 ∧ z.length = 2 ^ k.toNat ∧ ∀ j, j < z.length → 0 ≤ z.getD j 0 ∧ z.getD j 0 ≤ k * 60
instance (k : Int) (z : List Int) : Decidable (goalP k z) := inferInstanceAs (Decidable (_ ∧ _ ∧ _ ∧ ∀ j, j < z.length → 0 ≤ z.getD j 0 ∧ z.getD j 0 ≤ k * 60))
/-- part i of 2^j numbers each -/
def subL (z : List Int) (j i : Nat) : List Int := (List.range (2 ^ j)).map fun t => z.getD (i * 2 ^ j + t) 0
theorem subL_len (z : List Int) (j i : Nat) : (subL z j i).length = 2 ^ j := by simp [subL]
/-- the sum of the numbers t of a part -/
def sumT (z : List Int) (j i : Nat) : Nat → Int
  | 0 => 0
  | t + 1 => sumT z j i t + z.getD (i * 2 ^ j + t) 0
def sumO (z : List Int) (j i : Nat) : Int := sumT z j i (2 ^ j)
theorem pow_small {j : Nat} (hj : j ≤ 10) : (2 ^ j : Nat) ≤ 1024 := Nat.le_trans (Nat.pow_le_pow_right (by omega) hj) (by decide)
section
variable {ro : List ABlk} {h hp : Heap} {a b v : AVal} {x : List (List Int)} {z : List Int}

theorem mxT_eq {a c : Int} : mxV true a c = max a c := by
  unfold mxV; simp only [if_true]; split <;> omega

/-- a part of a goal in memory -/
def IsSub (ro : List ABlk) (h : Heap) (v : AVal) (z : List Int) (j i : Nat) : Prop := IsRow ro h v (subL z j i) ∧ CapO v
theorem IsSub.bel {j i : Nat} (a : IsSub ro h v z j i) : v.bel h.length = true := row_bel a.1
theorem IsSub.len {j i : Nat} (a : IsSub ro h v z j i) : evP .e (.len false (.c v)) = some (.i .i64 ((2 ^ j : Nat) : Int)) := by
  have := len_row a.1
  rwa [subL_len] at this

end
end Go.Proofs.Ytnalgdobglfndaa.T

/- Can: the program's and the reference's. -/
open Go.Vm
set_option linter.unusedVariables false
namespace Go.Proofs.Ytnalgdobglfndaa.T
open Go

theorem prod_rng {c r B : Int} (hc : 0 ≤ c) (hc2 : c ≤ 1024) (h1 : -B ≤ r) (h2 : r ≤ B) : -(1024 * B) ≤ c * r ∧ c * r ≤ 1024 * B := by
  have hB : 0 ≤ B := by omega
  have a1 := Int.mul_le_mul_of_nonneg_left h2 hc
  have a2 := Int.mul_le_mul_of_nonneg_left h1 hc
  have a3 := Int.mul_le_mul_of_nonneg_right hc2 hB
  rw [Int.mul_neg] at a2
  omega

section
variable {ro : List ABlk} {h hp : Heap} {a b v : AVal} {x : List (List Int)} {z : List Int}

theorem GV.len {L k : Nat} {zs : List Int} (g : GV hp L 3 1 v k (ints zs)) : evP .e (.len false (.c v)) = some (.i .i64 (k : Int)) := by
  rcases g with ⟨rfl, rfl, -⟩ | ⟨b, blk, rfl, -⟩
  · rfl
  · simp [evP, ev_len, opd, mkI_eq]
end
end Go.Proofs.Ytnalgdobglfndaa.T

/- Can, Guess and Loss: the program's and the reference's. -/
open Go.Vm
set_option linter.unusedVariables false
namespace Go.Proofs.Ytnalgdobglfndaa.T
open Go

section
variable {ro : List ABlk} {h hp : Heap} {a b c v : AVal} {x : List (List Int)} {z y : List Int}

end
end Go.Proofs.Ytnalgdobglfndaa.T

/- The law that compares Can, Guess and Loss. -/
open Go.Vm
set_option linter.unusedVariables false
namespace Go.Proofs.Ytnalgdobglfndaa.T
open Go

section
variable {ro : List ABlk} {h hp : Heap} {a b c v : AVal} {x : List (List Int)} {z y : List Int}

theorem seq_sameT (p q : Int) : evP .e (.seq true [0, 1] (.c (rV p q)) (.c (rV p q))) = some (.b false) := by
  simp [evP, ev_seq, opd, seqA, lget, kEq_self, eqI_eq]
end
end Go.Proofs.Ytnalgdobglfndaa.T

/- Goals whose means are near: room, guess and loss are known; the law about Cover's theorem. -/
open Go.Vm
set_option linter.unusedVariables false
namespace Go.Proofs.Ytnalgdobglfndaa.T
open Go

def nearJ (z : List Int) (j i : Nat) : Prop := sumO z j (2 * i) - sumO z j (2 * i + 1) ≤ 60 * 2 ^ j ∧ sumO z j (2 * i + 1) - sumO z j (2 * i) ≤ 60 * 2 ^ j
instance (z : List Int) (j i : Nat) : Decidable (nearJ z j i) := inferInstanceAs (Decidable (_ ∧ _))
def nearL (z : List Int) (k j : Nat) : Prop := ∀ i, i < 2 ^ (k - 1 - j) → nearJ z j i
instance (z : List Int) (k j : Nat) : Decidable (nearL z k j) := inferInstanceAs (Decidable (∀ i, i < 2 ^ (k - 1 - j) → nearJ z j i))
def nearP (z : List Int) (k : Nat) : Prop := ∀ j, j < k → nearL z k j
instance (z : List Int) (k : Nat) : Decidable (nearP z k) := inferInstanceAs (Decidable (∀ j, j < k → nearL z k j))

section
variable {ro : List ABlk} {h hp : Heap} {a b c v : AVal} {x : List (List Int)} {z y : List Int}

end
end Go.Proofs.Ytnalgdobglfndaa.T

/- Lists of rows that a function makes by append; a row cut; rows of an argument with their room. -/
open Go.Vm
set_option linter.unusedVariables false
namespace Go.Proofs.Ytnalgdobglfndaa.T
open Go

section
variable {ro : List ABlk} {h hp hp' : Heap} {a b v : AVal} {x : List (List Int)} {z : List Int}

/-- the block of a slice -/
def bno : AVal → Option Nat
  | .sl q _ _ => some q.b
  | _ => none
theorem GV.bno {L e es k : Nat} {cs : List AVal} (g : GV hp L e es v k cs) : ∀ i, T.bno v = some i → L ≤ i ∧ i < hp.length := by
  intro i hi
  rcases g with ⟨rfl, -⟩ | ⟨b, blk, rfl, h2, h3, h4, h5⟩
  · cases hi
  · cases hi
    exact ⟨h3, lget_lt h4⟩
theorem GV.byB {L e es k : Nat} {cs : List AVal} (g : GV hp L e es v k cs) (ho : ∀ i, i < hp.length → T.bno v = some i → hp'[i]? = hp[i]?) : GV hp' L e es v k cs := by
  rcases g with h | ⟨b, blk, rfl, h2, h3, h4, h5⟩
  · exact .inl h
  · exact .inr ⟨b, blk, rfl, h2, h3, by rw [lget_of (ho b (lget_lt h4) rfl)]; exact h4, h5⟩
/-- one more, from any memory: only the list's own block goes -/
theorem GV.pushS {L0 P0 L e es bytes k : Nat} {z : List AVal} {v w : AVal} {cs ws : List AVal} (g : GV hp L e es v k cs) (hL : L ≤ hp.length) (hk : k ≤ 100000) (hb : bytes ≤ 1000) (hes : 0 < es) (hz : z.length = es) (hw : w.cells = ws) (hwl : ws.length = es) (ho : ones ws = true) (hsp : splice z 0 ws = ws) :
    ∃ v2 hp2 v3 hp3 l3 p3 b3, stepM ro ⟨hp, L0, P0⟩ (.bsl e es z 1 [((0, es), .c w)]) = some (v2, ⟨hp2, L0, P0⟩) ∧ stepM ro ⟨hp2, L0, P0⟩ (.app e es bytes z (.c v) (.c v2)) = some (v3, ⟨hp3, l3, p3⟩) ∧
      GV hp3 L e es v3 (k + 1) (cs ++ ws) ∧ T.bno v3 = some b3 ∧ hp.length ≤ b3 ∧ hp.length ≤ hp3.length ∧ (∀ i, i < hp.length → T.bno v ≠ some i → hp3[i]? = hp[i]?) ∧ (L ≤ L0 → L ≤ l3) ∧ l3 ≤ L0 ∧ (L ≤ P0 → L ≤ p3) ∧ p3 ≤ P0 := by
  have s1 : stepM ro ⟨hp, L0, P0⟩ (.bsl e es z 1 [((0, es), .c w)]) = some (.sl ⟨false, hp.length, 0⟩ 1 (.known 1), ⟨hp ++ [some (blkOf e ws)], L0, P0⟩) := by
    simp [stepM, stepK, st_bsl, rep, fillA, opd, hw, hwl, hz, hsp, newB, St.mm]
  have src : app_src ro (hp ++ [some (blkOf e ws)]) es (.sl ⟨false, hp.length, 0⟩ 1 (.known 1)) = some (ws, 1) := by
    have hbq : rdB ro (hp ++ [some (blkOf e ws)]) ⟨false, hp.length, 0⟩ = some (blkOf e ws) := by simp [rdB, lget_eq]
    have hg : (blkOf e ws).c.row 0 es = ws := row_row es 0 ws hwl fun j hj => by rw [Nat.zero_add, get_blk]
    have hble : Nat.ble (0 + 1 * es) (blkOf e ws).n = true := by rw [Nat.ble_eq]; show 0 + 1 * es ≤ ws.length; omega
    simp only [app_src, hbq, hble, cond_true]
    rw [show 1 * es = es by omega, hg]
  rcases g with ⟨rfl, rfl, rfl⟩ | ⟨b, blk, rfl, hpos, hLb, hbk, hbe, hcl, hbn, hrows⟩
  · refine ⟨_, _, .sl ⟨false, hp.length + 1, 0⟩ 1 .grow, hp ++ [some (blkOf e ws)] ++ [some (blkOf e ws)], L0, P0, hp.length + 1, s1, ?_, .inr ⟨hp.length + 1, blkOf e ws, rfl, by omega, by omega, ?_, rfl, by simp; omega, by show 1 * es ≤ ws.length; omega, fun j hj => ?_⟩, rfl, by omega, by simp, fun i hi _ => ?_, fun h => h, Nat.le_refl _, fun h => h, Nat.le_refl _⟩
    · have hb1 : Nat.beq 1 0 = false := rfl
      simp only [stepM, stepK, opd, st_app, src, hb1, cond_false, fits_small (by omega : 1 ≤ 1000000) hb, cond_true, newB, St.mm, List.length_append, List.length_cons, List.length_nil, Nat.zero_add]
    · have := lget_last (hp ++ [some (blkOf e ws)]) (some (blkOf e ws))
      rwa [List.length_append, List.length_singleton] at this
    · rw [get_blk]; simp
    · rw [List.append_assoc, List.getElem?_append_left (by omega)]
  · obtain ⟨hp2, e2⟩ : ∃ hp2, hp2 = hp ++ [some (blkOf e ws)] := ⟨_, rfl⟩
    rw [← e2] at src s1
    have hlt : b < hp.length := lget_lt hbk
    have hb2 : lget hp2 b = some (some blk) := by rw [e2]; exact lget_ext hbk _
    have hlen2 : hp2.length = hp.length + 1 := by rw [e2]; simp
    have hrow : blk.c.row 0 (k * es) = cs := row_row (k * es) 0 cs hcl fun j hj => by rw [Nat.zero_add]; exact hrows j hj
    have hke : 0 < k * es := Nat.mul_pos hpos hes
    refine ⟨_, _, .sl ⟨false, hp2.length, 0⟩ (k + 1) .grow, lset none hp2 b ++ [some (blkOf e (cs ++ ws))], min L0 b, min P0 b, hp2.length, s1, ?_, .inr ⟨hp2.length, blkOf e (cs ++ ws), rfl, by omega, by omega, ?_, rfl, ?_, ?_, fun j hj => ?_⟩, rfl, by omega, ?_, fun i hi hne => ?_, fun h => by omega, Nat.min_le_left _ _, fun h => by omega, Nat.min_le_left _ _⟩
    · have h1 : (Nat.beq blk.e e && Nat.ble (k * es) blk.n && fits (k + 1) bytes && ones ws) = true := by
        rw [hbe, fits_small (by omega : k + 1 ≤ 1000000) hb]
        simp [ho, Nat.ble_eq]; omega
      have h2 : (false || !Nat.beq 0 0 || Nat.beq 1 0) = false := rfl
      have h3 : Nat.blt 0 blk.n = true := by rw [Nat.blt_eq]; omega
      simp only [stepM, stepK, opd, st_app, src, app_grow, h2, cond_false, hb2, h1, h3, Bool.and_self, cond_true, St.mm, hrow]
    · rw [lget_eq, lset_eq, List.getElem?_append_right (by simp)]
      simp
    · rw [List.length_append, hcl, hwl, Nat.add_mul]; omega
    · show (k + 1) * es ≤ (cs ++ ws).length
      rw [List.length_append, hcl, hwl, Nat.add_mul]; omega
    · rw [get_blk]
    · simp [lset_eq]; omega
    · have hib : b ≠ i := fun e => hne (by rw [e]; rfl)
      rw [lset_eq, List.getElem?_append_left (by simp; omega), List.getElem?_set_ne hib, e2, List.getElem?_append_left (by omega)]
/-- a list of rows made by append -/
theorem GV.mat {L e k : Nat} {cs : List AVal} (g : GV hp L e 1 v k cs) (hk : x.length = k) (hr : ∀ j, j < k → IsRow ro hp (cs.getD j und) (x.getD j [])) : IsMat ro hp v x := by
  subst hk
  rcases g with ⟨rfl, h2, -⟩ | ⟨b, blk, rfl, hpos, hLb, hbk, hbe, hcl, hbn, hrows⟩
  · exact .inl ⟨rfl, List.length_eq_zero_iff.1 h2⟩
  · refine .inr ⟨_, _, blk, rfl, rdB_heap hbk 0, by simpa using hbn, fun j hj => ?_⟩
    rw [Nat.zero_add, hrows j (by omega)]
    exact hr j hj

/-- every row of a list of rows has room for itself -/
def CapM (ro : List ABlk) (h : Heap) (v : AVal) : Prop := ∀ q n cap blk, v = .sl q n cap → rdB ro h q = some blk → ∀ r, r < n → CapO (blk.c.get (q.off + r))
theorem at_matC (hr : IsMat ro h v x) (hcm : CapM ro h v) {i : Nat} (hi : i < x.length) : ∃ p u, evP .e (.ixS 1 (.c v) (.c (.i .i64 (i : Int)))) = some p ∧ (∀ {hp : Heap} {l q : Nat}, Keep h hp → ldM ro ⟨hp, l, q⟩ true 1 p = some u ∧ ldA ro hp true 1 p = some u) ∧ IsRow ro h u (x.getD i []) ∧ CapO u := by
  rcases hr with ⟨rfl, rfl⟩ | ⟨q, cap, blk, rfl, hb, hn, hc⟩
  · simp at hi
  · refine ⟨_, _, ixS_eq hi, fun {hp l q'} k => ?_, hc i hi, hcm _ _ _ _ rfl hb i hi⟩
    have hb' : rdB ro hp q = some blk := by rw [take_eq k.1 k.2]; exact rdB_ext _ hb
    have h1 := rd_one (i := i) hb' (by omega)
    refine ⟨h1, ?_⟩
    have := rdB_lt hb'
    simp only [ldA, this, cond_true, h1]
/-- a row's beginning -/
theorem take_row {m : Nat} (hr : IsRow ro h v z) (hc : CapO v) (hm : m ≤ z.length) (hm0 : 0 < m) : ∃ q cap, evP .e (.slS 1 (.c v) none (some (.c (.i .i64 (m : Int)))) none) = some (.sl q m cap) ∧ IsRow ro h (.sl q m cap) (z.take m) := by
  rcases hr with ⟨-, hnil⟩ | ⟨q, cap, blk, rfl, hb, hbn, hg⟩
  · rw [hnil] at hm; simp at hm; omega
  refine ⟨q, cap, ?_, .inr ⟨q, cap, blk, by rw [List.length_take]; congr 1; omega, hb, by rw [List.length_take]; omega, fun t ht => ?_⟩⟩
  · have hcb : m ≤ capB cap z.length := by
      cases cap with
      | known c => have := hc q _ c rfl; show m ≤ c; omega
      | grow => exact hm
      | any => exact hm
    have hble : Nat.ble m (capB cap z.length) = true := by rw [Nat.ble_eq]; exact hcb
    have en : ((m : Nat) : Int) = Int.ofNat m := rfl
    simp only [evP, ev_slS, opd, sl_lh, Option.map_some, Option.map_none, sbound, en, hble, cond_true]
  · rw [List.length_take] at ht
    rw [hg t (by omega)]
    simp [List.getD, show t < m by omega]
/-- a new row of two -/
theorem new_two {l p : Nat} {n d : Int} : stepM ro ⟨hp, l, p⟩ (.bsl 3 1 [(AVal.i IntKind.i64 0)] 2 [((0, 1), .c (.i .i64 n)), ((1, 1), .c (.i .i64 d))]) = some (.sl ⟨false, hp.length, 0⟩ 2 (.known 2), ⟨hp ++ [some (blkOf 3 (ints [n, d]))], l, p⟩) := rfl
theorem two_row {q : Nat} {n d : Int} (a : Holds hp q (ints [n, d])) : IsRow ro hp (.sl ⟨false, q, 0⟩ 2 (.known 2)) [n, d] := holds_row a rfl rfl
/-- of two ratios with one denominator, both reduced -/
theorem less_ok {n d n2 d2 : Int} : callX F1 ro 47 [rV n d, rV n2 d2] h = some (.b (decide (Go.Vm.wr .i64 (n * d2) < Go.Vm.wr .i64 (n2 * d))), h, h.length, h.length) := by
  refine g47_ok (meansX_ok F1 ro) rfl ?_
  unfold g47
  have s1 : stepM ro ⟨h, h.length, h.length⟩ (.bx 42 2 (.c (rV n d))) = some (.p (some ⟨false, h.length, 0⟩), ⟨h ++ [some (blkOf 42 [.i .i64 n, .i .i64 d])], h.length, h.length⟩) := rfl
  have s2 : stepM ro ⟨h ++ [some (blkOf 42 [.i .i64 n, .i .i64 d])], h.length, h.length⟩ (.bx 42 2 (.c (rV n2 d2))) = some (.p (some ⟨false, h.length + 1, 0⟩), ⟨h ++ [some (blkOf 42 [.i .i64 n, .i .i64 d])] ++ [some (blkOf 42 [.i .i64 n2, .i .i64 d2])], h.length, h.length⟩) := by
    have : (h ++ [some (blkOf 42 [.i .i64 n, .i .i64 d])]).length = h.length + 1 := by simp
    rw [← this]; rfl
  have a1 : Holds (h ++ [some (blkOf 42 [.i .i64 n, .i .i64 d])] ++ [some (blkOf 42 [.i .i64 n2, .i .i64 d2])]) h.length [.i .i64 n, .i .i64 d] := (Holds.new h 42 _).ext _
  have a2 : Holds (h ++ [some (blkOf 42 [.i .i64 n, .i .i64 d])] ++ [some (blkOf 42 [.i .i64 n2, .i .i64 d2])]) (h.length + 1) [.i .i64 n2, .i .i64 d2] := by
    have := Holds.new (h ++ [some (blkOf 42 [.i .i64 n, .i .i64 d])]) 42 [.i .i64 n2, .i .i64 d2]
    simpa using this
  have t1 := a1.one (ro := ro) (l := h.length) (p := h.length) (k := 0) (by simp)
  have t2 := a1.one (ro := ro) (l := h.length) (p := h.length) (k := 1) (by simp)
  have t3 := a2.one (ro := ro) (l := h.length) (p := h.length) (k := 0) (by simp)
  have t4 := a2.one (ro := ro) (l := h.length) (p := h.length) (k := 1) (by simp)
  simp only [Nat.zero_add] at t1 t2 t3 t4
  simp only [s1, s2, bindP_some, p_faddr, Nat.zero_add, t1, t2, t3, t4, bindO_some, List.getD_cons_zero, List.getD_cons_succ, asI_i, forceI_eq, forceB_eq, ltI_eq, tupA]
  have hk : Keep h (h ++ [some (blkOf 42 [.i .i64 n, .i .i64 d])] ++ [some (blkOf 42 [.i .i64 n2, .i .i64 d2])]) := (Keep.app _).trans (Keep.app _)
  rw [show (some (blkOf 42 [.i .i64 n, .i .i64 d])) = (some (blkOf 42 [.i .i64 n, .i .i64 d]) : Option ABlk) from rfl]
  exact fin_keep hk rfl
end
end Go.Proofs.Ytnalgdobglfndaa.T

/- Series and walks: what fewer foretellers, one alone, and two that always differ come to. -/
open Go.Vm
set_option linter.unusedVariables false
namespace Go.Proofs.Ytnalgdobglfndaa.T
open Go

/-- the sum over all series of a number that hangs on how many digits differ -/
def Dst : Nat → (Nat → Nat) → Nat
  | 0, g => g 0
  | k + 1, g => Dst k fun w => g w + g (w + 1)
theorem sumN_two (w : Nat → Nat) : ∀ m, sumN w (2 * m) = sumN (fun s => w (2 * s) + w (2 * s + 1)) m
  | 0 => rfl
  | m + 1 => by
    rw [show 2 * (m + 1) = 2 * m + 1 + 1 by omega]
    simp only [sumN, sumN_two w m]
    omega
/-- how many of the first j digits, from the highest one on, are not those of c -/
def diffN (c : Nat → Nat) (s k : Nat) : Nat → Nat
  | 0 => 0
  | j + 1 => diffN c s k j + (if c j ≠ s / 2 ^ (k - 1 - j) % 2 then 1 else 0)
theorem wrong_diff (x : List (List Int)) (f s k : Nat) : ∀ j, wrongN x f s k j = diffN (fun j => bt x j f) s k j
  | 0 => rfl
  | j + 1 => by simp only [wrongN, diffN, wrong_diff x f s k j]
theorem diff_up {c : Nat → Nat} {s b k : Nat} (hb : b < 2) : ∀ j, j ≤ k → diffN c (2 * s + b) (k + 1) j = diffN c s k j
  | 0, _ => rfl
  | j + 1, hj => by
    simp only [diffN, diff_up (c := c) (s := s) (k := k) hb j (by omega)]
    have : (2 * s + b) / 2 ^ (k + 1 - 1 - j) = s / 2 ^ (k - 1 - j) := by
      rw [show k + 1 - 1 - j = (k - 1 - j) + 1 by omega, Nat.pow_succ, Nat.mul_comm (2 ^ (k - 1 - j)) 2, ← Nat.div_div_eq_div_mul, show (2 * s + b) / 2 = s by omega]
    rw [this]
theorem sum_diff {c : Nat → Nat} : ∀ k (g : Nat → Nat), (∀ j, j < k → c j < 2) → sumN (fun s => g (diffN c s k k)) (2 ^ k) = Dst k g
  | 0, g, _ => by simp [sumN, diffN, Dst]
  | k + 1, g, hc => by
    rw [Nat.pow_succ, Nat.mul_comm, sumN_two, Dst, ← sum_diff k _ fun j hj => hc j (by omega)]
    refine sumN_congr _ fun s _ => ?_
    have h0 := diff_up (c := c) (s := s) (k := k) (b := 0) (by decide) k (Nat.le_refl _)
    have h1 := diff_up (c := c) (s := s) (k := k) (b := 1) (by decide) k (Nat.le_refl _)
    rw [Nat.add_zero] at h0
    have hck := hc k (by omega)
    simp only [diffN, h0, h1, Nat.add_sub_cancel, Nat.sub_self, Nat.pow_zero, Nat.div_one]
    have e0 : 2 * s % 2 = 0 := by omega
    have e1 : (2 * s + 1) % 2 = 1 := by omega
    rw [e0, e1]
    rcases (show c k = 0 ∨ c k = 1 by omega) with h | h <;> rw [h] <;> simp <;> omega
/-- the ones among the first j digits, from the lowest one on -/
def lowN (s : Nat) : Nat → Nat
  | 0 => 0
  | j + 1 => lowN s j + s / 2 ^ j % 2
theorem low_up (s b : Nat) (hb : b < 2) : ∀ j, lowN (2 * s + b) (j + 1) = b + lowN s j
  | 0 => by simp [lowN]; omega
  | j + 1 => by
    rw [lowN, low_up s b hb j, lowN]
    have : (2 * s + b) / 2 ^ (j + 1) = s / 2 ^ j := by
      rw [Nat.pow_succ, Nat.mul_comm (2 ^ j) 2, ← Nat.div_div_eq_div_mul, show (2 * s + b) / 2 = s by omega]
    rw [this]; omega
theorem sum_low : ∀ k (g : Nat → Nat), sumN (fun s => g (lowN s k)) (2 ^ k) = Dst k g
  | 0, g => by simp [sumN, lowN, Dst]
  | k + 1, g => by
    rw [Nat.pow_succ, Nat.mul_comm, sumN_two, Dst, ← sum_low k]
    refine sumN_congr _ fun s _ => ?_
    have h0 := low_up s 0 (by decide) k
    have h1 := low_up s 1 (by decide) k
    rw [Nat.add_zero] at h0
    rw [h0, h1, Nat.zero_add, Nat.add_comm 1]
theorem low_le (s : Nat) : ∀ j, lowN s j ≤ j
  | 0 => Nat.le_refl _
  | j + 1 => by
    have := low_le s j
    simp only [lowN]; omega
/-- how far a walk of k steps ends from where it began -/
def farN (k p : Nat) : Nat := k - 2 * min p (k - p)
/-- the first so many foretellers -/
def firstM (x : List (List Int)) (m : Nat) : List (List Int) := (List.range x.length).map fun i => (nthR x i).take m
/-- the first foreteller, and one that always says the other -/
def bothM (x : List (List Int)) : List (List Int) := (List.range x.length).map fun i => [(nthR x i).getD 0 0, 1 - (nthR x i).getD 0 0]
theorem firstM_get {x : List (List Int)} {m i : Nat} (hi : i < x.length) : nthR (firstM x m) i = (nthR x i).take m := by simp [firstM, hi]
theorem bothM_get {x : List (List Int)} {i : Nat} (hi : i < x.length) : nthR (bothM x) i = [(nthR x i).getD 0 0, 1 - (nthR x i).getD 0 0] := by simp [bothM, hi]
theorem take_getD {z : List Int} {m f : Nat} (hf : f < m) : (z.take m).getD f 0 = z.getD f 0 := by simp [List.getD, hf]
theorem firstM_mat {x : List (List Int)} {k n m : Nat} (hm : matP x k n) (hmn : m ≤ n) : matP (firstM x m) k m := by
  have hl := mat_len hm
  have hfl : (firstM x m).length = k := by simp [firstM, hl]
  refine ⟨fun i hi => ?_, by omega⟩
  have hi' : i < x.length := by omega
  rw [firstM_get hi']
  have hr := row_len hm (show i < k by omega)
  refine ⟨fun j hj => ?_, by rw [List.length_take]; omega⟩
  rw [List.length_take] at hj
  rw [take_getD (by omega)]
  exact (hm.1 i hi').1 j (by omega)
theorem bothM_mat {x : List (List Int)} {k n : Nat} (hm : matP x k n) (hn : 0 < n) : matP (bothM x) k (2 : Nat) := by
  have hl := mat_len hm
  have hfl : (bothM x).length = k := by simp [bothM, hl]
  refine ⟨fun i hi => ?_, by omega⟩
  have hi' : i < x.length := by omega
  rw [bothM_get hi']
  have hr := row_len hm (show i < k by omega)
  have hb := (hm.1 i hi').1 0 (by omega)
  refine ⟨fun j hj => ?_, rfl⟩
  have hj2 : j < 2 := hj
  unfold bitP at hb ⊢
  rcases (show j = 0 ∨ j = 1 by omega) with rfl | rfl
  · exact hb
  · show (1 - (nthR x i).getD 0 0 = 0 ∨ 1 - (nthR x i).getD 0 0 = 1)
    omega
theorem firstM_bt {x : List (List Int)} {m j f : Nat} (hj : j < x.length) (hf : f < m) : bt (firstM x m) j f = bt x j f := by unfold bt; rw [firstM_get hj, take_getD hf]
theorem bothM_bt {x : List (List Int)} {k n j : Nat} (hm : matP x k n) (hn : 0 < n) (hj : j < k) : bt (bothM x) j 1 = 1 - bt (bothM x) j 0 ∧ bt (bothM x) j 0 < 2 := by
  have hl := mat_len hm
  have hb := (hm.1 j (by omega)).1 0 (by have := row_len hm hj; omega)
  unfold bt
  rw [bothM_get (by omega)]
  unfold bitP at hb
  show (1 - (nthR x j).getD 0 0).toNat = 1 - ((nthR x j).getD 0 0).toNat ∧ ((nthR x j).getD 0 0).toNat < 2
  omega
theorem wrong_congr {x y : List (List Int)} {f f' s k : Nat} : ∀ j, (∀ i, i < j → bt x i f = bt y i f') → wrongN x f s k j = wrongN y f' s k j
  | 0, _ => rfl
  | j + 1, h => by simp only [wrongN, wrong_congr j fun i hi => h i (by omega), h j (by omega)]
theorem minN_mono {w : Nat → Nat} {d m : Nat} : ∀ n, m ≤ n → minN w d n ≤ minN w d m
  | 0, h => by obtain rfl : m = 0 := by omega
               exact Nat.le_refl _
  | n + 1, h => by
    by_cases e : m = n + 1
    · subst e; exact Nat.le_refl _
    · exact Nat.le_trans (Nat.min_le_left _ _) (minN_mono n (by omega))
theorem sum_first {x : List (List Int)} {k n m : Nat} (hm : matP x k n) (hmn : m ≤ n) : bestSum x k n ≤ bestSum (firstM x m) k m := by
  refine sumN_le _ fun s _ => ?_
  have e : best (firstM x m) k m s = minN (fun f => wrongN x f s k k) k m := minN_congr m fun f hf => wrong_congr k fun i hi => firstM_bt (by have := mat_len hm; omega) hf
  rw [e]
  exact minN_mono n hmn
theorem sum_single {x : List (List Int)} {k : Nat} (hk : k < 11) (hm : matP x k (1 : Nat)) : bestSum x k 1 = k * 2 ^ (k - 1) := by
  rw [← sum_wrong hk hm (show 0 < 1 by decide) k (Nat.le_refl _)]
  refine sumN_congr _ fun s _ => ?_
  show min k (wrongN x 0 s k k) = _
  exact Nat.min_eq_right (wrong_le x 0 s k k)
theorem two_wrong {x : List (List Int)} {k n s : Nat} (hm : matP x k n) (hn : 0 < n) : ∀ j, j ≤ k → wrongN (bothM x) 0 s k j + wrongN (bothM x) 1 s k j = j
  | 0, _ => rfl
  | j + 1, hj => by
    have ih := two_wrong (s := s) hm hn j (by omega)
    obtain ⟨h1, h2⟩ := bothM_bt hm hn (show j < k by omega)
    have hs : s / 2 ^ (k - 1 - j) % 2 < 2 := Nat.mod_lt _ (by decide)
    simp only [wrongN, h1]
    generalize s / 2 ^ (k - 1 - j) % 2 = u at *
    generalize bt (bothM x) j 0 = c at *
    split <;> split <;> omega
/-- two that always differ: a walk -/
theorem sum_walk {x : List (List Int)} {k n : Nat} (hm : matP x k n) (hn : 0 < n) : sumN (fun s => farN k (lowN s k)) (2 ^ k) + 2 * bestSum (bothM x) k 2 = k * 2 ^ k := by
  have e1 : bestSum (bothM x) k 2 = sumN (fun s => min (diffN (fun j => bt (bothM x) j 0) s k k) (k - diffN (fun j => bt (bothM x) j 0) s k k)) (2 ^ k) := by
    refine sumN_congr _ fun s _ => ?_
    show min (min k (wrongN (bothM x) 0 s k k)) (wrongN (bothM x) 1 s k k) = _
    have h1 := two_wrong (s := s) hm hn k (Nat.le_refl _)
    rw [← wrong_diff]
    omega
  have e2 := sum_diff (c := fun j => bt (bothM x) j 0) k (fun p => min p (k - p)) fun j hj => (bothM_bt hm hn hj).2
  have e3 := sum_low k (fun p => min p (k - p))
  have e4 : bestSum (bothM x) k 2 = sumN (fun s => min (lowN s k) (k - lowN s k)) (2 ^ k) := by rw [e1]; exact e2.trans e3.symm
  rw [e4]
  have e5 : ∀ m, sumN (fun s => farN k (lowN s k)) m + 2 * sumN (fun s => min (lowN s k) (k - lowN s k)) m = k * m := by
    intro m
    induction m with
    | zero => rfl
    | succ m ih =>
      simp only [sumN, farN] at ih ⊢
      rw [Nat.mul_succ]
      omega
  exact e5 _
/-- ratios with the same denominator, in lowest terms -/
theorem ratio_mono {a b d : Nat} (hd : 0 < d) (h : a ≤ b) : a / Nat.gcd a d * (d / Nat.gcd b d) ≤ b / Nat.gcd b d * (d / Nat.gcd a d) := by
  have ga : 0 < Nat.gcd a d := Nat.gcd_pos_of_pos_right _ hd
  have gb : 0 < Nat.gcd b d := Nat.gcd_pos_of_pos_right _ hd
  have a1 := Nat.div_mul_cancel (Nat.gcd_dvd_left a d)
  have a2 := Nat.div_mul_cancel (Nat.gcd_dvd_right a d)
  have b1 := Nat.div_mul_cancel (Nat.gcd_dvd_left b d)
  have b2 := Nat.div_mul_cancel (Nat.gcd_dvd_right b d)
  generalize Nat.gcd a d = g at *
  generalize Nat.gcd b d = g' at *
  refine Nat.le_of_mul_le_mul_right (c := g * g') ?_ (Nat.mul_pos ga gb)
  have l1 : a / g * (d / g') * (g * g') = a * d := by
    rw [Nat.mul_mul_mul_comm, a1, b2]
  have l2 : b / g' * (d / g) * (g * g') = b * d := by
    rw [Nat.mul_comm g g', Nat.mul_mul_mul_comm, b1, a2]
  rw [l1, l2]
  exact Nat.mul_le_mul_right _ h
theorem ratio_eq {a w d m : Nat} (hd : 0 < d) (h : a * m = w * d) : a / Nat.gcd a d * m = w * (d / Nat.gcd a d) := by
  have ga : 0 < Nat.gcd a d := Nat.gcd_pos_of_pos_right _ hd
  have a1 := Nat.div_mul_cancel (Nat.gcd_dvd_left a d)
  have a2 := Nat.div_mul_cancel (Nat.gcd_dvd_right a d)
  generalize Nat.gcd a d = g at *
  refine Nat.eq_of_mul_eq_mul_right ga ?_
  rw [Nat.mul_right_comm, a1, Nat.mul_assoc, a2, h]
end Go.Proofs.Ytnalgdobglfndaa.T

/- The law about walks. -/
open Go.Vm
set_option linter.unusedVariables false
namespace Go.Proofs.Ytnalgdobglfndaa.T
open Go

section
variable {ro : List ABlk} {h hp hp' : Heap} {a b v : AVal} {x : List (List Int)} {z : List Int}

theorem keep0 (hp : Heap) : Keep [] hp := ⟨Nat.zero_le _, fun i hi => absurd hi (Nat.not_lt_zero _)⟩
theorem shl_w {n : Int} {k : Nat} (hk : k ≤ 10) (h0 : 0 ≤ n) (h1 : n ≤ 100000) : shlV .i64 n (k : Int) = ((2 ^ k : Nat) : Int) * n := by
  unfold shlV
  have e : min ((k : Int)).toNat (IntKind.bits .i64) = k := by
    have : IntKind.bits .i64 = 64 := rfl
    omega
  have hp := pow_small hk
  have hp0 := Nat.two_pow_pos k
  have := prod_rng (c := ((2 ^ k : Nat) : Int)) (r := n) (B := 100000) (by omega) (by omega) (by omega) (by omega)
  rw [e]
  show Go.Vm.wr .i64 (n * ((2 ^ k : Nat) : Int)) = _
  rw [Int.mul_comm, wr_id' (by omega) (by omega)]
/-- the two lists of rows, made by append -/
def WInv (ro : List ABlk) (hp1 : Heap) (x : List (List Int)) (m : Nat) (i : Nat) (v12 v13 : AVal) (hp : Heap) : Prop :=
  ∃ cs1 cs2 : List AVal, Keep hp1 hp ∧ GV hp hp1.length 23 1 v12 i cs1 ∧ GV hp hp1.length 23 1 v13 i cs2 ∧ (∀ b, T.bno v12 = some b → T.bno v13 ≠ some b) ∧
    (∀ j, j < i → IsRow ro [] (cs1.getD j und) ((nthR x j).take m)) ∧
    ∀ j, j < i → ∃ c, cs2.getD j und = .sl ⟨false, c, 0⟩ 2 (.known 2) ∧ Holds hp c (ints [(nthR x j).getD 0 0, 1 - (nthR x j).getD 0 0]) ∧ T.bno v12 ≠ some c ∧ T.bno v13 ≠ some c
theorem getD_old {α : Type} {l : List α} {w d : α} {j : Nat} (hj : j < l.length) : (l ++ [w]).getD j d = l.getD j d := by simp [List.getD, List.getElem?_append_left hj]
theorem getD_new {α : Type} {l : List α} {w d : α} {j : Nat} (hj : j = l.length) : (l ++ [w]).getD j d = w := by subst hj; simp [List.getD]
theorem walk_loop {K N m : Nat} {x74 : Int} {v9 : AVal} {hp1 : Heap} (ha : IsMat ro [] a x) (hcm : CapM ro [] a) (hK : K ≤ 10) (hmat : matP x K N) (hm0 : 0 < m) (hmN : m ≤ N) (hx74 : x74 = (m : Int)) :
    ∃ v12 v13 hp, loopX (fun s : AVal × AVal × Int × Mm => g13_b5 (meansX F1 ro) ro (K : Int) a v9 x74 s.1 s.2.1 s.2.2.1 s.2.2.2) (.nsl, .nsl, 0, (⟨hp1, 0, 0⟩ : Mm)) = some (v12, v13, (⟨hp, 0, 0⟩ : Mm)) ∧
      Keep hp1 hp ∧ IsMat ro hp v12 (firstM x m) ∧ IsMat ro hp v13 (bothM x) := by
  subst hx74
  have hxl := mat_len hmat
  have key : ∃ o, loopX (fun s : AVal × AVal × Int × Mm => g13_b5 (meansX F1 ro) ro (K : Int) a v9 (m : Int) s.1 s.2.1 s.2.2.1 s.2.2.2) (.nsl, .nsl, 0, (⟨hp1, 0, 0⟩ : Mm)) = some o ∧
      ∃ v12 v13 hp, o = (v12, v13, (⟨hp, 0, 0⟩ : Mm)) ∧ WInv ro hp1 x m K v12 v13 hp := by
    refine loopX_rule (b := fun s : AVal × AVal × Int × Mm => g13_b5 (meansX F1 ro) ro (K : Int) a v9 (m : Int) s.1 s.2.1 s.2.2.1 s.2.2.2)
      (fun s => ∃ (i : Nat) (v12 v13 : AVal) (hp : Heap), i ≤ K ∧ s = (v12, v13, (i : Int), (⟨hp, 0, 0⟩ : Mm)) ∧ WInv ro hp1 x m i v12 v13 hp)
      (fun o => ∃ v12 v13 hp, o = (v12, v13, (⟨hp, 0, 0⟩ : Mm)) ∧ WInv ro hp1 x m K v12 v13 hp)
      (fun s => K - s.2.2.1.toNat) ?_ _ ⟨0, .nsl, .nsl, hp1, Nat.zero_le _, rfl, [], [], Keep.refl _, GV.nil _ _ _ _, GV.nil _ _ _ _, (fun b hb => by cases hb), (fun j hj => by omega), fun j hj => by omega⟩
    rintro s ⟨i, v12, v13, hp, hi, rfl, cs1, cs2, kp, g1, g2, hd, r1, r2⟩
    by_cases hiK : i = K
    · subst hiK
      right
      refine ⟨(v12, v13, ⟨hp, 0, 0⟩), ?_, v12, v13, hp, rfl, cs1, cs2, kp, g1, g2, hd, r1, r2⟩
      simp only [g13_b5, forceB_eq, ltI_eq, lt_no, cond_false]
    left
    have hiK' : i < K := by omega
    have hix : i < x.length := by omega
    have hrl := row_len hmat hiK'
    obtain ⟨p, u, e1, eld, hu, hcu⟩ := at_matC ha hcm hix
    have e2 := (eld (l := 0) (q := 0) (keep0 hp)).1
    obtain ⟨q, cap, e3, hrow⟩ := take_row hu hcu (show m ≤ (nthR x i).length by omega) hm0
    obtain ⟨v2, hpa, v12', hpb, l3, p3, b3, s1, s2, g1', hb3, hb3l, hl3, ho3, -, hl0, -, hp0⟩ := g1.pushS (ro := ro) (L0 := 0) (P0 := 0) (bytes := 24) (z := [AVal.nsl]) (w := .sl q m cap) (ws := [.sl q m cap]) kp.1 (by omega) (by decide) (by decide) rfl rfl rfl rfl rfl
    obtain rfl : l3 = 0 := by omega
    obtain rfl : p3 = 0 := by omega
    have e2' := (eld (l := hpb.length) (q := hpb.length) (keep0 hpb)).1
    obtain ⟨p0, e4, eld0⟩ := at_rowK hu (show 0 < (nthR x i).length by omega)
    have e5 := (eld0 (l := hpb.length) (q := hpb.length) (keep0 hpb)).1
    have e4' : evP .e (.ixS 1 (.c u) (.c (.i .i64 0))) = some p0 := e4
    have hbit := (hmat.1 i hix).1 0 (by omega)
    have w1 : Go.Vm.wr .i64 (1 - (nthR x i).getD 0 0) = 1 - (nthR x i).getD 0 0 := by
      unfold bitP at hbit
      exact wr_id' (by omega) (by omega)
    have s3 := new_two (ro := ro) (hp := hpb) (l := hpb.length) (p := hpb.length) (n := (nthR x i).getD 0 0) (d := 1 - (nthR x i).getD 0 0)
    have g2b : GV hpb hp1.length 23 1 v13 i cs2 := g2.byB fun j hj hb => ho3 j hj fun hb' => hd j hb' hb
    have kc : Keep hpb (hpb ++ [some (blkOf 3 (ints [(nthR x i).getD 0 0, 1 - (nthR x i).getD 0 0]))]) := Keep.app _
    have g2c := g2b.by kc
    obtain ⟨hpc, ec⟩ : ∃ hpc, hpc = hpb ++ [some (blkOf 3 (ints [(nthR x i).getD 0 0, 1 - (nthR x i).getD 0 0]))] := ⟨_, rfl⟩
    have hnew : Holds hpc hpb.length (ints [(nthR x i).getD 0 0, 1 - (nthR x i).getD 0 0]) := by rw [ec]; exact Holds.new hpb 3 _
    rw [← ec] at kc g2c s3
    have hcl : hpc.length = hpb.length + 1 := by rw [ec]; simp
    have hL1 := kp.1
    obtain ⟨v4, hpd, v13', hpe, l4, p4, b4, s4, s5, g2', hb4, hb4l, hl4, ho4, -, -, -, -⟩ := g2c.pushS (ro := ro) (L0 := hpb.length) (P0 := hpb.length) (bytes := 24) (z := [AVal.nsl]) (w := .sl ⟨false, hpb.length, 0⟩ 2 (.known 2)) (ws := [.sl ⟨false, hpb.length, 0⟩ 2 (.known 2)]) (by omega) (by omega) (by decide) (by decide) rfl rfl rfl rfl rfl
    have hjoin : Mm.join ⟨hpb, 0, 0⟩ ⟨hpe, l4, p4⟩ = (⟨hpe, 0, 0⟩ : Mm) := by simp [Mm.join]
    have hbase : Mm.base ⟨hpb, 0, 0⟩ = (⟨hpb, hpb.length, hpb.length⟩ : Mm) := rfl
    have hb3lt := (g1'.bno b3 hb3).2
    have hv13 : ∀ j, T.bno v13 = some j → hp1.length ≤ j ∧ j < hp.length := g2.bno
    have hv12 : ∀ j, T.bno v12 = some j → hp1.length ≤ j ∧ j < hp.length := g1.bno
    have hcl1 := g1.clen
    have hcl2 := g2.clen
    -- what was there and is no list's block
    have hkeep : ∀ j, j < hp.length → T.bno v12 ≠ some j → T.bno v13 ≠ some j → hpe[j]? = hp[j]? := fun j hj h1 h2 => by
      rw [ho4 j (by omega) h2, kc.2 j (by omega), ho3 j hj h1]
    refine ⟨(v12', v13', ((i + 1 : Nat) : Int), ⟨hpe, 0, 0⟩), ?_, ⟨i + 1, v12', v13', hpe, hiK', rfl, cs1 ++ [.sl q m cap], cs2 ++ [.sl ⟨false, hpb.length, 0⟩ 2 (.known 2)], ⟨by omega, fun j hj => ?_⟩, ?_, g2', fun b hb => ?_, fun j hj => ?_, fun j hj => ?_⟩, ?_⟩
    · simp only [g13_b5, forceB_eq, ltI_eq, lt_yes hiK', cond_true, e1, e2, bindO_some, e3, s1, bindP_some, s2, hbase, e2', e4', e5, asI_i, forceI_eq, w1, s3, s4, s5, hjoin]
      rw [wr_next (by omega)]
    · rw [hkeep j (by omega) (fun hb => by have := hv12 j hb; omega) (fun hb => by have := hv13 j hb; omega)]
      exact kp.2 j hj
    · refine (g1'.by kc).byB fun j hj hb => ho4 j hj fun hb' => ?_
      have := hv13 j hb'
      rw [hb3] at hb; cases hb
      omega
    · rw [hb3] at hb; cases hb
      rw [hb4]
      intro hb'; cases hb'
      omega
    · by_cases hji : j < i
      · rw [getD_old (by omega)]; exact r1 j hji
      · obtain rfl : j = i := by omega
        rw [getD_new (by omega)]; exact hrow
    · by_cases hji : j < i
      · obtain ⟨c, h1, h2, h3, h4⟩ := r2 j hji
        have hlt := h2.lt
        refine ⟨c, by rw [getD_old (by omega)]; exact h1, h2.keep (hkeep c hlt h3 h4), ?_, ?_⟩
        · rw [hb3]; intro hb; cases hb; omega
        · rw [hb4]; intro hb; cases hb; omega
      · obtain rfl : j = i := by omega
        refine ⟨hpb.length, by rw [getD_new (by omega)], hnew.keep (ho4 _ (by omega) fun hb => by have := hv13 _ hb; omega), ?_, ?_⟩
        · rw [hb3]; intro hb; cases hb; omega
        · rw [hb4]; intro hb; cases hb; omega
    · show K - (((i + 1 : Nat) : Int)).toNat < K - ((i : Int)).toNat
      omega
  obtain ⟨o, hrun, v12, v13, hp, rfl, cs1, cs2, kp, g1, g2, hd, r1, r2⟩ := key
  refine ⟨v12, v13, hp, hrun, kp, g1.mat (by simp [firstM, hxl]) fun j hj => ?_, g2.mat (by simp [bothM, hxl]) fun j hj => ?_⟩
  · have := firstM_get (m := m) (show j < x.length by omega)
    unfold nthR at this
    rw [this]
    exact row_by (r1 j hj) (keep0 hp)
  · obtain ⟨c, h1, h2, -⟩ := r2 j hj
    have := bothM_get (show j < x.length by omega)
    unfold nthR at this
    rw [this, h1]
    exact two_row h2
/-- the steps of a walk, summed -/
theorem walk_one {K s : Nat} {v16 : AVal} {x18 : Int} {mm : Mm} (hK : K ≤ 10) : loopX (fun q : Int × Int => g13_b12 (meansX F1 ro) ro (K : Int) v16 x18 (s : Int) mm q.1 q.2) (0, 0) = some (2 * ((lowN s K : Nat) : Int) - (K : Int)) := by
  have := loop_run (b := fun q : Int × Int => g13_b12 (meansX F1 ro) ro (K : Int) v16 x18 (s : Int) mm q.1 q.2) (fun j => (2 * ((lowN s j : Nat) : Int) - (j : Int), (j : Int))) K (r0 := 2 * ((lowN s K : Nat) : Int) - (K : Int))
    (by simp only [g13_b12, forceB_eq, ltI_eq, lt_no, cond_false])
    (fun j hj => by
      have h1 := low_le s j
      have hm : s / 2 ^ j % 2 < 2 := Nat.mod_lt _ (by decide)
      have e1 : Int.tmod ((s / 2 ^ j : Nat) : Int) 2 = ((s / 2 ^ j % 2 : Nat) : Int) := tmod_nat _ 2
      have w1 : Go.Vm.wr .i64 (2 * ((s / 2 ^ j % 2 : Nat) : Int)) = 2 * ((s / 2 ^ j % 2 : Nat) : Int) := wr_id' (by omega) (by omega)
      have w2 : Go.Vm.wr .i64 (2 * ((s / 2 ^ j % 2 : Nat) : Int) - 1) = 2 * ((s / 2 ^ j % 2 : Nat) : Int) - 1 := wr_id' (by omega) (by omega)
      have w3 : Go.Vm.wr .i64 (2 * ((lowN s j : Nat) : Int) - (j : Int) + (2 * ((s / 2 ^ j % 2 : Nat) : Int) - 1)) = 2 * ((lowN s (j + 1) : Nat) : Int) - ((j + 1 : Nat) : Int) := by
        rw [wr_id' (by omega) (by omega)]; simp only [lowN]; omega
      simp only [g13_b12, forceB_eq, ltI_eq, lt_yes hj, cond_true, nneg, chk_true, forceI_eq, shr_nat (show j ≤ 60 by omega), e1, w1, w2, w3]
      rw [wr_next (by omega)])
  simpa [lowN] using this
theorem far_le (k p : Nat) : farN k p ≤ k := Nat.sub_le _ _
theorem walk_all {K : Nat} {v16 : AVal} {mm : Mm} (hK : K ≤ 10) : loopX (fun q : Int × Int => g13_b11 (meansX F1 ro) ro (K : Int) v16 mm q.1 q.2) (0, 0) = some ((sumN (fun s => farN K (lowN s K)) (2 ^ K) : Nat) : Int) := by
  have hpk := pow_small hK
  have := loop_run (b := fun q : Int × Int => g13_b11 (meansX F1 ro) ro (K : Int) v16 mm q.1 q.2) (fun s => (((sumN (fun s => farN K (lowN s K)) s : Nat) : Int), (s : Int))) (2 ^ K) (r0 := ((sumN (fun s => farN K (lowN s K)) (2 ^ K) : Nat) : Int))
    (by simp only [g13_b11, ltI_eq, nneg, chk_true, forceI_eq, shl_nat K (by omega), forceB_eq, lt_no, cond_false])
    (fun s hs => by
      have h1 := low_le s K
      have h2 := sum_small (w := fun s => farN K (lowN s K)) (c := s) (fun t => Nat.le_trans (far_le _ _) hK) (by omega)
      have hone := walk_one (ro := ro) (s := s) (v16 := v16) (x18 := ((sumN (fun s => farN K (lowN s K)) s : Nat) : Int)) (mm := mm) hK
      have w1 : Go.Vm.wr .i64 (0 - (2 * ((lowN s K : Nat) : Int) - (K : Int))) = (K : Int) - 2 * ((lowN s K : Nat) : Int) := by rw [wr_id' (by omega) (by omega)]; omega
      have w2 : max (2 * ((lowN s K : Nat) : Int) - (K : Int)) ((K : Int) - 2 * ((lowN s K : Nat) : Int)) = ((farN K (lowN s K) : Nat) : Int) := by unfold farN; omega
      have h3 := far_le K (lowN s K)
      have w3 : Go.Vm.wr .i64 (((sumN (fun s => farN K (lowN s K)) s : Nat) : Int) + ((farN K (lowN s K) : Nat) : Int)) = ((sumN (fun s => farN K (lowN s K)) (s + 1) : Nat) : Int) := by
        rw [wr_id' (by omega) (by omega)]; simp only [sumN]; omega
      simp only [g13_b11, ltI_eq, nneg, chk_true, forceI_eq, shl_nat K (by omega), forceB_eq, lt_yes hs, cond_true, meansX_loop, hone, bindO_some, w1, mxT_eq, w2, w3]
      rw [wr_next (by omega)])
  simpa [sumN] using this
end
end Go.Proofs.Ytnalgdobglfndaa.T

/- The law about walks: the function. -/
open Go.Vm
set_option linter.unusedVariables false
namespace Go.Proofs.Ytnalgdobglfndaa.T
open Go

section
variable {ro : List ABlk} {h hp hp' : Heap} {a b v : AVal} {x : List (List Int)} {z : List Int}

/-- a new cell for a ratio, written -/
theorem new_rat {n d : Int} (hp : Heap) : ∃ hp', stepM ro ⟨hp ++ [some (blkOf 42 [(AVal.i IntKind.i64 0), (AVal.i IntKind.i64 0)])], 0, 0⟩ (.st 2 (.c (.p (some ⟨false, hp.length, 0⟩))) (.c (rV n d))) = some (und, ⟨hp', 0, 0⟩) ∧ Holds hp' hp.length [.i .i64 n, .i .i64 d] ∧ Keep hp hp' := by
  obtain ⟨hp', h1, h2, h3, h4, h5⟩ := (Holds.new hp 42 [(AVal.i IntKind.i64 0), (AVal.i IntKind.i64 0)]).st (ro := ro) (h := []) (vs' := [.i .i64 n, .i .i64 d]) (v := rV n d) (n := 2) rfl rfl rfl rfl (Nat.zero_le _) (keep0 _)
  exact ⟨hp', h1, h2, keep_o (Keep.app _) (Nat.le_refl _) h3 h4⟩
theorem regV_said {K N : Nat} (hs : saidP (K : Int) (N : Int) x) : regV x (K : Int) (N : Int) = .tup [rV ((((K * 2 ^ (K - 1) - bestSum x K N) / Nat.gcd (K * 2 ^ (K - 1) - bestSum x K N) (2 ^ K) : Nat)) : Int) (((2 ^ K / Nat.gcd (K * 2 ^ (K - 1) - bestSum x K N) (2 ^ K) : Nat)) : Int), .i .i64 0] := by
  unfold regV; rw [if_pos hs]; rfl
/-- a ratio over 2^K: its parts -/
theorem rat_parts {T K : Nat} (hK : K ≤ 10) (hT : T ≤ 5120) : 1 ≤ 2 ^ K / Nat.gcd T (2 ^ K) ∧ 2 ^ K / Nat.gcd T (2 ^ K) ≤ 1024 ∧ T / Nat.gcd T (2 ^ K) ≤ 5120 := by
  have hpk := pow_small hK
  have hD : 0 < 2 ^ K := Nat.two_pow_pos K
  have hg0 : 0 < Nat.gcd T (2 ^ K) := Nat.gcd_pos_of_pos_right _ hD
  exact ⟨Nat.div_pos (Nat.le_of_dvd hD (Nat.gcd_dvd_right _ _)) hg0, Nat.le_trans (Nat.div_le_self _ _) hpk, Nat.le_trans (Nat.div_le_self _ _) hT⟩
theorem half_pow {K : Nat} (hK : K ≤ 10) : K * 2 ^ (K - 1) ≤ 5120 ∧ 2 * (K * 2 ^ (K - 1)) = K * 2 ^ K := by
  by_cases h0 : K = 0
  · subst h0; simp
  · have h1 : (2 : Nat) ^ (K - 1) ≤ 2 ^ 9 := Nat.pow_le_pow_right (by decide) (by omega)
    have h2 : 2 ^ K = 2 * 2 ^ (K - 1) := by rw [← Nat.pow_succ']; congr 1; omega
    refine ⟨Nat.le_trans (Nat.mul_le_mul hK h1) (by decide), by rw [h2, Nat.mul_left_comm]⟩
theorem two_le {T d g K : Nat} (hg : 0 < g) (h1 : T / g * g = T) (h2 : d / g * g = d) (h : 2 * T ≤ K * d) : 2 * (T / g) ≤ K * (d / g) := by
  refine Nat.le_of_mul_le_mul_right (c := g) ?_ hg
  rw [Nat.mul_assoc, h1, Nat.mul_assoc, h2]; exact h
theorem len_ok_of {x : List (List Int)} {k n : Nat} (hm : matP x k n) (hk : k ≤ 1000) (hn : n ≤ 1000) : LenOk x := ⟨by have := mat_len hm; omega, fun i hi => by have := row_len hm (show i < k by have := mat_len hm; omega); omega⟩

theorem law13 {k n s : Int} (ha : IsMat ro [] a x) (hcm : CapM ro [] a) (hf : Fits x) (hs0 : 0 ≤ s) (hs1 : s < 65536) : ∃ h' lw lp, callX F1 ro 13 [.i .i64 k, .i .i64 n, a, .i .u8 s] [] = some (.b true, h', lw, lp) := by
  have hfew := cp0 (few_ok ha (nil_row (ro := ro) []) hf.1)
  by_cases hw : few x []
  case neg =>
    refine ⟨[], 0, 0, g13_ok (meansX_ok F1 ro) rfl ?_⟩
    unfold g13
    have hal := cp0 (F := F1) (alive_pure (ro := ro) (h := []))
    simp only [List.length_nil] at hfew hal
    simp only [List.length_nil, meansX_call, hfew, bindP_some, asB_b, forceB_eq, dF hw, Bool.not_false, cond_true, hal, tupA]
    exact fin_pure (h := []) rfl
  obtain ⟨p, q, e, hr⟩ := regV_form x k n
  have c1 := cp0 (Regret_ok (k := k) (n := n) ha hf.lens)
  obtain ⟨hp1, s1, d1, k1⟩ := new_rat (ro := ro) (n := p) (d := q) []
  have c2 := cp (F := F1) (l := 0) (p := 0) (Said_ok (k := k) (n := n) (mat_by ha k1) hf.lens) (Nat.zero_le _) (Nat.zero_le _)
  have l1 := d1.all (ro := ro) (l := 0) (p := 0) (n := 2) rfl
  by_cases hsd : saidP k n x
  case neg =>
    have hal := cp (F := F1) (l := 0) (p := 0) (alive_pure (ro := ro) (h := hp1)) (Nat.zero_le _) (Nat.zero_le _)
    have hr2 : regV x k n = .tup [rV 0 0, .i .i64 2] := by unfold regV; rw [if_neg hsd]
    rw [hr2] at hr
    cases hr
    rw [hr2] at c1
    simp only [List.length_nil] at s1 d1 l1 c1 hfew
    refine ⟨hp1.take 0, 0, 0, g13_ok (meansX_ok F1 ro) rfl ?_⟩
    unfold g13
    simp only [List.length_nil, meansX_call, hfew, bindP_some, asB_b, forceB_eq, dT hw, Bool.not_true, cond_false, c1, ext0, ext1, bindO_some, asI_i, al_ok, s1, c2, dF hsd, Bool.not_false, cond_true, eqI_eq, beq_self_eq_true, l1, fill0, seq_same, hal, tupA]
    exact fin_take (L := 0) rfl
  obtain ⟨hk1, hk10, hn1, hn20, hmat⟩ := id hsd
  obtain ⟨K, rfl⟩ : ∃ K : Nat, k = (K : Int) := ⟨k.toNat, by omega⟩
  obtain ⟨N, rfl⟩ : ∃ N : Nat, n = (N : Int) := ⟨n.toNat, by omega⟩
  obtain ⟨S, rfl⟩ : ∃ S : Nat, s = (S : Int) := ⟨s.toNat, by omega⟩
  have hK : K ≤ 10 := by omega
  have hN0 : 0 < N := by omega
  have hpk := pow_small hK
  have hpk0 := Nat.two_pow_pos K
  have hxl := mat_len hmat
  obtain ⟨hhp, hh2⟩ := half_pow hK
  obtain ⟨m, hm⟩ : ∃ m, m = 1 + S % N := ⟨_, rfl⟩
  have hmN : m ≤ N := by have := Nat.mod_lt S hN0; omega
  have hm0 : 0 < m := by omega
  -- the three regrets
  obtain ⟨T0, hT0⟩ : ∃ T0, T0 = K * 2 ^ (K - 1) - bestSum x K N := ⟨_, rfl⟩
  obtain ⟨T1, hT1⟩ : ∃ T1, T1 = K * 2 ^ (K - 1) - bestSum (firstM x m) K m := ⟨_, rfl⟩
  obtain ⟨T2, hT2⟩ : ∃ T2, T2 = K * 2 ^ (K - 1) - bestSum (bothM x) K 2 := ⟨_, rfl⟩
  have hm1 := firstM_mat hmat hmN
  have hm2 := bothM_mat hmat hN0
  have hsd1 : saidP (K : Int) (m : Int) (firstM x m) := ⟨hk1, hk10, by omega, by omega, hm1⟩
  have hsd2 : saidP (K : Int) ((2 : Nat) : Int) (bothM x) := ⟨hk1, hk10, by decide, by decide, hm2⟩
  have r0 := regV_said hsd
  have r1 := regV_said hsd1
  have r2 := regV_said hsd2
  rw [← hT0] at r0
  rw [← hT1] at r1
  rw [← hT2] at r2
  rw [r0] at hr
  cases hr
  rw [r0] at c1
  obtain ⟨pd0, pd0', pn0⟩ := rat_parts (T := T0) hK (by omega)
  obtain ⟨pd1, pd1', pn1⟩ := rat_parts (T := T1) hK (by omega)
  obtain ⟨pd2, pd2', pn2⟩ := rat_parts (T := T2) hK (by omega)
  have hg0 : 0 < Nat.gcd T0 (2 ^ K) := Nat.gcd_pos_of_pos_right _ hpk0
  have q1 : 2 * (T0 / Nat.gcd T0 (2 ^ K)) ≤ K * (2 ^ K / Nat.gcd T0 (2 ^ K)) := two_le hg0 (Nat.div_mul_cancel (Nat.gcd_dvd_left _ _)) (Nat.div_mul_cancel (Nat.gcd_dvd_right _ _)) (by omega)
  have hbs := sum_first hmat hmN
  have q2 := ratio_mono (a := T1) (b := T0) hpk0 (by omega)
  have hwk := sum_walk hmat hN0
  obtain ⟨Wk, hWk⟩ : ∃ Wk, Wk = sumN (fun s => farN K (lowN s K)) (2 ^ K) := ⟨_, rfl⟩
  rw [← hWk] at hwk
  have q3 := ratio_eq (a := T2) (w := Wk) (d := 2 ^ K) (m := 2 * 2 ^ K) hpk0 (by
    have : T2 * 2 = Wk := by omega
    rw [← Nat.mul_assoc, this])
  have hWs : Wk ≤ 10240 := by rw [hWk]; exact sum_small (fun t => Nat.le_trans (far_le _ _) hK) (by omega)
  -- the lists
  obtain ⟨v12, v13, hp2, hrun, k2, m1, m2⟩ := walk_loop (v9 := .p (some ⟨false, 0, 0⟩)) (hp1 := hp1) ha hcm hK hmat hm0 hmN rfl
  have c3 := cp (F := F1) (l := 0) (p := 0) (Regret_ok (k := (K : Int)) (n := (m : Int)) m1 (len_ok_of hm1 (by omega) (by omega))) (Nat.zero_le _) (Nat.zero_le _)
  rw [r1] at c3
  obtain ⟨hp3, s3, d3, k3⟩ := new_rat (ro := ro) (n := ((T1 / Nat.gcd T1 (2 ^ K) : Nat) : Int)) (d := ((2 ^ K / Nat.gcd T1 (2 ^ K) : Nat) : Int)) hp2
  have c4 := cp (F := F1) (l := 0) (p := 0) (Regret_ok (k := (K : Int)) (n := ((2 : Nat) : Int)) (mat_by m2 k3) (len_ok_of hm2 (by omega) (by omega))) (Nat.zero_le _) (Nat.zero_le _)
  rw [r2] at c4
  have c4' : callM (callX F1 ro) ⟨hp3, 0, 0⟩ 35 [.i .i64 (K : Int), .i .i64 2, v13] = _ := c4
  obtain ⟨hp4, s4, d4, k4⟩ := new_rat (ro := ro) (n := ((T2 / Nat.gcd T2 (2 ^ K) : Nat) : Int)) (d := ((2 ^ K / Nat.gcd T2 (2 ^ K) : Nat) : Int)) hp3
  -- what the cells hold
  simp only [List.length_nil] at s1 d1 l1 c1 hfew
  have f1 := d1.one (ro := ro) (l := 0) (p := 0) (k := 0) (by simp)
  have f2 := d1.one (ro := ro) (l := 0) (p := 0) (k := 1) (by simp)
  have D1 := d1.by (k2.trans (k3.trans k4))
  have D3 := d3.by k4
  have f3 := D3.one (ro := ro) (l := 0) (p := 0) (k := 1) (by simp)
  have f4 := D1.all (ro := ro) (l := 0) (p := 0) (n := 2) rfl
  have f5 := D3.all (ro := ro) (l := 0) (p := 0) (n := 2) rfl
  have f6 := d4.one (ro := ro) (l := hp4.length) (p := hp4.length) (k := 0) (by simp)
  have f7 := d4.one (ro := ro) (l := hp4.length) (p := hp4.length) (k := 1) (by simp)
  simp only [Nat.zero_add] at f1 f2 f3 f4 f5 f6 f7
  have cle := cp (F := F1) (l := 0) (p := 0) (less_ok (ro := ro) (h := hp4) (n := ((T0 / Nat.gcd T0 (2 ^ K) : Nat) : Int)) (d := ((2 ^ K / Nat.gcd T0 (2 ^ K) : Nat) : Int)) (n2 := ((T1 / Nat.gcd T1 (2 ^ K) : Nat) : Int)) (d2 := ((2 ^ K / Nat.gcd T1 (2 ^ K) : Nat) : Int))) (Nat.zero_le _) (Nat.zero_le _)
  have hwalk := walk_all (ro := ro) (v16 := .p (some ⟨false, hp3.length, 0⟩)) (mm := ⟨hp4, 0, 0⟩) hK
  rw [← hWk] at hwalk
  have hal := cp (F := F1) (l := hp4.length) (p := hp4.length) (alive_pure (ro := ro) (h := hp4)) (Nat.le_refl _) (Nat.le_refl _)
  have hbase : Mm.base ⟨hp4, 0, 0⟩ = (⟨hp4, hp4.length, hp4.length⟩ : Mm) := rfl
  have hjoin : Mm.join ⟨hp4, 0, 0⟩ ⟨hp4, hp4.length, hp4.length⟩ = (⟨hp4, 0, 0⟩ : Mm) := by simp [Mm.join]
  -- a single one has no regret
  have hone : m = 1 → T1 / Nat.gcd T1 (2 ^ K) = 0 ∧ 2 ^ K / Nat.gcd T1 (2 ^ K) = 1 := fun e => by
    have hm1' : matP (firstM x m) (K : Int) ((1 : Nat) : Int) := by rw [e] at hm1 ⊢; exact hm1
    have h1 := sum_single (show K < 11 by omega) hm1'
    have hz : T1 = 0 := by
      rw [e] at h1 hT1
      rw [hT1, h1, Nat.sub_self]
    rw [hz]
    refine ⟨by simp, by simp [Nat.div_self hpk0]⟩
  generalize 2 ^ K / Nat.gcd T0 (2 ^ K) = D0 at *
  generalize 2 ^ K / Nat.gcd T1 (2 ^ K) = DD1 at *
  generalize 2 ^ K / Nat.gcd T2 (2 ^ K) = DD2 at *
  generalize T0 / Nat.gcd T0 (2 ^ K) = N0 at *
  generalize T1 / Nat.gcd T1 (2 ^ K) = N1 at *
  generalize T2 / Nat.gcd T2 (2 ^ K) = N2 at *
  have b1 : K * D0 ≤ 10 * 1024 := Nat.mul_le_mul hK pd0'
  have b2 : N0 * DD1 ≤ 5120 * 1024 := Nat.mul_le_mul pn0 pd1'
  have b3 : N1 * D0 ≤ 5120 * 1024 := Nat.mul_le_mul pn1 pd0'
  have b4 : Wk * DD2 ≤ 10240 * 1024 := Nat.mul_le_mul hWs pd2'
  have w1 : Go.Vm.wr .i64 (2 * (N0 : Int)) = ((2 * N0 : Nat) : Int) := by rw [wr_id' (by omega) (by omega)]; omega
  have w2 : Go.Vm.wr .i64 ((K : Int) * (D0 : Int)) = ((K * D0 : Nat) : Int) := by rw [← Int.natCast_mul, wr_nat (by omega)]
  have w3 : Go.Vm.wr .i64 (S : Int) = (S : Int) := wr_id' (by omega) (by omega)
  have w4 : Int.tmod (S : Int) (N : Int) = ((S % N : Nat) : Int) := tmod_nat S N
  have w5 : Go.Vm.wr .i64 (1 + ((S % N : Nat) : Int)) = (m : Int) := by rw [wr_id' (by omega) (by omega)]; omega
  have w6 : Go.Vm.wr .i64 ((N0 : Int) * (DD1 : Int)) = ((N0 * DD1 : Nat) : Int) := by rw [← Int.natCast_mul, wr_nat (by omega)]
  have w7 : Go.Vm.wr .i64 ((N1 : Int) * (D0 : Int)) = ((N1 * D0 : Nat) : Int) := by rw [← Int.natCast_mul, wr_nat (by omega)]
  have w8 : Go.Vm.wr .i64 ((N2 : Int) * 2) = ((N2 * 2 : Nat) : Int) := by rw [wr_id' (by omega) (by omega)]; omega
  have w9 : shlV .i64 ((N2 * 2 : Nat) : Int) (K : Int) = ((2 ^ K : Nat) : Int) * ((N2 * 2 : Nat) : Int) := shl_w hK (by omega) (by omega)
  have w10 : Go.Vm.wr .i64 ((Wk : Int) * (DD2 : Int)) = ((Wk * DD2 : Nat) : Int) := by rw [← Int.natCast_mul, wr_nat (by omega)]
  have e1 : (!((N : Int) == Int.ofNat 0)) = true := by simp only [Bool.not_eq_true', beq_eq_false_iff_ne]; show ¬ _ = (0 : Int); omega
  have t1 : decide ((D0 : Int) < 1) = false := dF (by omega)
  have t2 : decide ((N0 : Int) < 0) = false := dF (by omega)
  have t3 : decide (((K * D0 : Nat) : Int) < ((2 * N0 : Nat) : Int)) = false := dF (by omega)
  have t4 : decide ((DD1 : Int) < 1) = false := dF (by omega)
  have t5 : decide (((N0 * DD1 : Nat) : Int) < ((N1 * D0 : Nat) : Int)) = false := dF (by omega)
  have t6 : ((((2 ^ K : Nat) : Int) * ((N2 * 2 : Nat) : Int)) == ((Wk * DD2 : Nat) : Int)) = true := by
    rw [beq_iff_eq, ← Int.natCast_mul, ← q3]
    congr 1
    rw [Nat.mul_comm (2 ^ K), Nat.mul_assoc]
  rw [w6, w7, t5] at cle
  refine ⟨hp4.take 0, 0, 0, g13_ok (meansX_ok F1 ro) rfl ?_⟩
  unfold g13
  simp only [List.length_nil, meansX_call, hfew, bindP_some, asB_b, forceB_eq, dT hw, Bool.not_true, cond_false, c1, ext0, ext1, bindO_some, asI_i, al_ok, s1, c2, dT hsd, eqI_eq, beq_self_eq_true, p_faddr, Nat.zero_add, f1, f2,
    List.getD_cons_zero, List.getD_cons_succ, ltI_eq, t1, t2, forceI_eq, w1, w2, t3, w3, e1, chk_true, w4, w5, meansX_loop, hrun, c3, s3, c4', s4, f3, t4, f4, f5, cle]
  by_cases hm1' : m = 1
  · obtain ⟨z1, z2⟩ := hone hm1'
    subst z1 z2
    have em : (((m : Nat) : Int) == 1) = true := by rw [hm1']; rfl
    have sq : evP .e (.seq true [0, 1] (.c (.agg [.i .i64 ((0 : Nat) : Int), .i .i64 ((1 : Nat) : Int)])) (.c (.agg [.i .i64 0, .i .i64 1]))) = some (.b false) := seq_sameT 0 1
    have fl : (fillA [(AVal.i IntKind.i64 0), (AVal.i IntKind.i64 0)] [((0, 1), (.i .i64 0)), ((1, 1), (.i .i64 1))]).map AVal.agg = some (rV 0 1) := rfl
    simp only [em, cond_true, bindO_some, fl, sq, asB_b, cond_false, hwalk, hbase, f6, f7, List.getD_cons_zero, List.getD_cons_succ, asI_i, w8, nneg, chk_true, w9, w10, t6, cond_true, hal, bindP_some, hjoin, tupA]
    exact fin_take (L := 0) rfl
  · have em : (((m : Nat) : Int) == 1) = false := by rw [beq_eq_false_iff_ne]; omega
    simp only [em, cond_false, bindO_some, hwalk, hbase, f6, f7, List.getD_cons_zero, List.getD_cons_succ, asI_i, w8, nneg, chk_true, w9, w10, t6, cond_true, hal, bindP_some, asB_b, hjoin, tupA]
    exact fin_take (L := 0) rfl
end
end Go.Proofs.Ytnalgdobglfndaa.T

/- An argument that is a list of rows: each with its room. -/
open Go.Vm
set_option linter.unusedVariables false
namespace Go.Proofs.Ytnalgdobglfndaa.T
open Go Go.RowKit Go.Deep Go.WideShapes Go.ChangeShapes

/-- of an argument: read-only memory for it -/
theorem ro_matC {W : World} {v0 : Value} {rows : List (List Int)} (h : OpenM W v0 rows) (pre : List ABlk) (prl : Rl) (hp : pre.length = prl.length) : ∃ (ro : List ABlk) (rl : Rl) (v : AVal), ro.length = rl.length ∧ (∀ x y h, IsMat (pre ++ ro ++ x) h v rows ∧ VR (prl ++ rl ++ y) [] v v0) ∧ (∀ x h, CapM (pre ++ ro ++ x) h v) ∧
    ∀ (i : Nat) (b : ABlk), ro[i]? = some b → ∃ x, rl[i]? = some x ∧ ∀ j, j < b.n → x.block < W.heap.size ∧ ∃ v', W.cell? (x.add j) = some v' ∧ ∀ y, VR (prl ++ rl ++ y) [] (b.c.get j) v' := by
  rcases h.o with ⟨rfl, rfl⟩ | ⟨a, cap, A, L, C, Z, rfl, hcap, hrows, hcell⟩
  · exact ⟨[], [], .nsl, rfl, fun x y h => ⟨.inl ⟨rfl, rfl⟩, .nsl⟩, (fun x h q n cap blk e => by cases e), fun i b hb => by simp at hb⟩
  · have hro : ∀ (x : List ABlk) (r : Nat), r < cap → (pre ++ roMat pre.length cap A L C Z ++ x)[pre.length + 1 + r]? = some ⟨0, cond (A r).isSome (C r) 0, Tr.mk ((Z r).map (AVal.i .i64)), none⟩ := fun x r hr => by
      rw [List.append_assoc, List.getElem?_append_right (by omega), show pre.length + 1 + r - pre.length = r + 1 by omega]
      simp [roMat, hr, List.getElem?_append_left]
    have hro0 : ∀ (x : List ABlk), (pre ++ roMat pre.length cap A L C Z ++ x)[pre.length]? = some ⟨0, cap, Tr.mk ((List.range cap).map (roCell pre.length A L C)), none⟩ := fun x => by
      rw [List.append_assoc, List.getElem?_append_right (by omega)]
      simp [roMat]
    have hrl : ∀ (y : Rl) (r : Nat), r < cap → (prl ++ rlMat a cap A ++ y)[pre.length + 1 + r]? = some ((A r).getD a) := fun y r hr => by
      rw [List.append_assoc, List.getElem?_append_right (by omega), show pre.length + 1 + r - prl.length = r + 1 by omega]
      simp [rlMat, hr, List.getElem?_append_left]
    have hrl0 : ∀ (y : Rl), (prl ++ rlMat a cap A ++ y)[pre.length]? = some a := fun y => by
      rw [List.append_assoc, List.getElem?_append_right (by omega), show pre.length - prl.length = 0 by omega]
      simp [rlMat]
    have hvr : ∀ (y : Rl) (r : Nat), r < cap → VR (prl ++ rlMat a cap A ++ y) [] (roCell pre.length A L C r) (.slice (A r) (L r) (C r)) := fun y r hr => by
      obtain ⟨-, -, h1, h2, h3, -⟩ := hcell r hr
      unfold roCell
      cases hA : A r with
      | none =>
        have := h3 hA
        have h0 : L r = 0 := by omega
        rw [this, h0]
        exact .nsl
      | some x =>
        refine .slk _ _ _ _ ?_
        have := hrl y r hr
        rw [hA] at this
        show (((prl ++ rlMat a cap A ++ y)[pre.length + 1 + r]?).map fun x => x.add 0) = some x
        rw [this]; simp [Addr.add]
    refine ⟨roMat pre.length cap A L C Z, rlMat a cap A, .sl ⟨true, pre.length, 0⟩ rows.length (.known cap), by simp [roMat, rlMat], fun x y h => ⟨.inr ⟨_, _, ⟨0, cap, Tr.mk ((List.range cap).map (roCell pre.length A L C)), none⟩, rfl, ?_, ?_, ?_⟩, ?_⟩, fun x h q n cap' blk e hb r hr => ?_, ?_⟩
    · simp only [rdB, cond_true, lget_eq]; exact hro0 x
    · simpa using hcap
    · intro r hr
      have hr' : r < cap := by omega
      obtain ⟨-, -, h1, h2, h3, h4⟩ := hcell r hr'
      have hg : (Tr.mk ((List.range cap).map (roCell pre.length A L C))).get (0 + r) = roCell pre.length A L C r := by
        rw [get_mk]; simp [List.getD, hr']
      have hrow : rows.getD r [] = (Z r).take (L r) := by
        rw [List.getD_eq_getElem?_getD]
        conv => lhs; rw [hrows]
        simp [hr]
      simp only [hg, hrow]
      unfold roCell
      cases hA : A r with
      | none =>
        have := h3 hA
        have h0 : L r = 0 := by omega
        exact .inl ⟨rfl, by simp [h0]⟩
      | some y =>
        refine .inr ⟨⟨true, pre.length + 1 + r, 0⟩, .known (C r), ⟨0, cond (A r).isSome (C r) 0, Tr.mk ((Z r).map (AVal.i .i64)), none⟩, ?_, ?_, ?_, ?_⟩
        · simp; omega
        · simp only [rdB, cond_true, lget_eq]; exact hro x r hr'
        · simp [hA]; omega
        · intro j hj
          simp only [List.length_take] at hj
          rw [get_mk]
          have hj2 : j < (Z r).length := by omega
          have hj3 : j < L r := by omega
          simp [List.getD, hj2, hj3]
    · refine .slk _ _ _ _ ?_
      show (((prl ++ rlMat a cap A ++ y)[pre.length]?).map fun x => x.add 0) = some a
      rw [hrl0 y]; simp [Addr.add]
    · cases e
      have hb' : (pre ++ roMat pre.length cap A L C Z ++ x)[pre.length]? = some blk := by simpa [rdB, lget_eq] using hb
      rw [hro0 x] at hb'
      cases hb'
      have hr' : r < cap := by omega
      obtain ⟨-, -, h1, -⟩ := hcell r hr'
      have hg : (Tr.mk ((List.range cap).map (roCell pre.length A L C))).get (0 + r) = roCell pre.length A L C r := by
        rw [get_mk]; simp [List.getD, hr']
      show CapO ((Tr.mk ((List.range cap).map (roCell pre.length A L C))).get (0 + r))
      rw [hg]
      intro q' n' c' e'
      unfold roCell at e'
      split at e' <;> cases e'
      exact h1
    · intro i b hb
      cases i with
      | zero =>
        simp [roMat] at hb
        subst hb
        refine ⟨a, by simp [rlMat], fun j hj => ?_⟩
        obtain ⟨h0, h1, -⟩ := hcell j hj
        refine ⟨h0, _, h1, fun y => ?_⟩
        have hg : (Tr.mk ((List.range cap).map (roCell pre.length A L C))).get j = roCell pre.length A L C j := by
          rw [get_mk]; simp [List.getD, show j < cap from hj]
        simp only [hg]
        exact hvr y j hj
      | succ r =>
        simp only [roMat, List.getElem?_cons_succ, List.getElem?_map, Option.map_eq_some_iff] at hb
        obtain ⟨r', hr', rfl⟩ := hb
        obtain ⟨hlt, he⟩ := List.getElem?_eq_some_iff.1 hr'
        simp only [List.length_range] at hlt
        simp only [List.getElem_range] at he
        subst he
        refine ⟨(A r).getD a, by simp [rlMat, hlt], fun j hj => ?_⟩
        obtain ⟨-, -, h1, h2, h3, h4⟩ := hcell r hlt
        cases hA : A r with
        | none => simp [hA] at hj
        | some x =>
          simp only [hA, Option.isSome_some, cond_true] at hj
          obtain ⟨h5, h6⟩ := h4 x hA j hj
          refine ⟨h5, _, h6, fun y => ?_⟩
          have hg : (Tr.mk ((Z r).map (AVal.i .i64))).get j = .i .i64 ((Z r).getD j 0) := by
            rw [get_mk]; simp [List.getD, show j < (Z r).length by omega]
          simp only [hg]
          exact .i _ _


end Go.Proofs.Ytnalgdobglfndaa.T

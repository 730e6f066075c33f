/- Contracts of the functions: what each of them answers. -/
import Derived.Test.YthcadkmfbgonjaaVmGa0
import Derived.Test.YthcadkmfbgonjaaVmFO
import Derived.Test.YthcadkmfbgonjaaVmGt
import Derived.Test.YthcadkmfbgonjaaVmAE
import Derived.Test.YthcadkmfbgonjaaVmAF
import Derived.Test.YthcadkmfbgonjaaRows
import Derived.WalkKit
import Derived.ProofKit
import Derived.OpenShut
import Derived.Carry
import Derived.Deep.Slices
import Derived.ChangeMaps5
import Derived.Test.YthcadkmfbgonjaaVmAG
/- From the small machine to the statement: structs and lists of structs whose fields are numbers and truth values, in memory that is only read. -/
open Go.Vm
set_option linter.unusedVariables false
namespace Go.Proofs.Ythcadkmfbgonjaa.T
open Go Go.RowKit Go.Deep Go.WideShapes Go.ChangeShapes

instance : Inhabited AVal := ⟨und⟩
/-- a plain value in the world -/
def toV : AVal → Value
  | .i k n => .int k n
  | .b x => .bool x
  | _ => undef
/-- cells of given kinds: numbers, or truth values (none) -/
def Typed (ks : List (Option IntKind)) (vs : List AVal) : Prop := vs.length = ks.length ∧ ∀ j, j < ks.length →
  (∀ k, ks[j]? = some (some k) → ∃ n, vs.getD j und = .i k n ∧ (Lit.int k n).wf = true) ∧ (ks[j]? = some none → ∃ b, vs.getD j und = .b b)
theorem Typed.vr {ks : List (Option IntKind)} {vs : List AVal} (h : Typed ks vs) {j : Nat} (hj : j < ks.length) (y : Rl) : VR y [] (vs.getD j und) (toV (vs.getD j und)) := by
  obtain ⟨h1, h2⟩ := h.2 j hj
  have hk : ks[j]? = some ks[j] := List.getElem?_eq_getElem hj
  cases hkk : ks[j] with
  | none => obtain ⟨b, e⟩ := h2 (by rw [hk, hkk]); rw [e]; exact .b _
  | some k => obtain ⟨n, e, -⟩ := h1 k (by rw [hk, hkk]); rw [e]; exact .i _ _

/-- the fields of a struct type, one cell each -/
def Flds (t : TypeId) (ks : List (Option IntKind)) : Prop := ∃ fs : Array Field, Try.prog.underlying t = some (.struct fs) ∧ fs.size = ks.length ∧ Try.prog.cellsOf t = ks.length ∧
  ∀ j, j < ks.length → ∃ f, fs[j]? = some f ∧ f.offset = j ∧ Try.prog.cellsOf f.type = 1 ∧ (∀ k, ks[j]? = some (some k) → Try.prog.underlying f.type = some (.int k)) ∧ (ks[j]? = some none → Try.prog.underlying f.type = some .bool)

section
variable {H : Type} {enc : TypeId × Value → H} {W : World} {sp : Nat → Bool} {held : Bool} {base : Nat}
theorem struct_cells {t : TypeId} {ks : List (Option IntKind)} (hF : Flds t ks) {fuel : Nat} {cs : List Value} {x : DataW H × List MemPlace} (h : DataW.trod enc Try.prog W base sp held fuel t cs = some x) :
    ∃ vs, Typed ks vs ∧ cs = vs.map toV := by
  obtain ⟨fs, hu, hsz, hce, hf⟩ := hF
  obtain ⟨xs, k, hk, hxy, hcl, hxl, hfs⟩ := DataW.trod_struct hu h
  have one : ∀ j, j < ks.length → ∃ v : AVal, cs[j]? = some (toV v) ∧ (∀ k, ks[j]? = some (some k) → ∃ n, v = .i k n ∧ (Lit.int k n).wf = true) ∧ (ks[j]? = some none → ∃ b, v = .b b) := by
    intro j hj
    obtain ⟨f, hfj, hoff, hc1, hi, hb⟩ := hf j hj
    have h3 := hfs j f hfj
    rw [hoff, hc1] at h3
    have hx : xs[j]? = some xs[j] := List.getElem?_eq_getElem (by omega)
    rw [hx] at h3
    have hkj : ks[j]? = some ks[j] := List.getElem?_eq_getElem hj
    have cell : ∀ {w : Value}, (cs.drop j).take 1 = [w] → cs[j]? = some w := fun {w} e => by
      have h5 : ((cs.drop j).take 1)[0]? = some w := by rw [e]; rfl
      simpa [List.getElem?_take, List.getElem?_drop] using h5
    cases hkk : ks[j] with
    | none =>
      have := hb (by rw [hkj, hkk])
      obtain ⟨b, e1, -⟩ := DataW.trod_bool this h3
      exact ⟨.b b, cell e1, fun k hk => by rw [hkj, hkk] at hk; simp at hk, fun _ => ⟨b, rfl⟩⟩
    | some k =>
      have := hi k (by rw [hkj, hkk])
      obtain ⟨n, e1, -, e2⟩ := DataW.trod_int this h3
      exact ⟨.i k n, cell e1, fun k' hk => by rw [hkj, hkk] at hk; cases hk; exact ⟨n, rfl, e2⟩, fun hk => by rw [hkj, hkk] at hk; simp at hk⟩
  obtain ⟨y, hy⟩ := choose_lt (α := AVal) (p := fun j v => cs[j]? = some (toV v) ∧ (∀ k, ks[j]? = some (some k) → ∃ n, v = .i k n ∧ (Lit.int k n).wf = true) ∧ (ks[j]? = some none → ∃ b, v = .b b)) one
  have hlen : cs.length = ks.length := by rw [hcl, hce]
  have hg : ∀ j, j < ks.length → ((List.range ks.length).map y).getD j und = y j := fun j hj => by simp [List.getD, hj]
  refine ⟨(List.range ks.length).map y, ⟨by simp, fun j hj => ?_⟩, List.ext_getElem? fun j => ?_⟩
  · rw [hg j hj]; exact (hy j hj).2
  · rcases Nat.lt_or_ge j ks.length with hj | hj
    · rw [(hy j hj).1]; simp [hj]
    · rw [List.getElem?_eq_none (by omega), List.getElem?_eq_none (by simp; omega)]

/-- a struct as an argument -/
theorem opened_struct {t : TypeId} {ks : List (Option IntKind)} (hF : Flds t ks) {v0 : Value} {d : DataW H} {p : List MemPlace} (hs : ∃ cs, v0 = .agg cs ∧ cs.size = Try.prog.cellsOf t) (h : DataW.Trod enc Try.prog W base sp held t v0 d p) :
    ∃ vs, Typed ks vs ∧ v0 = .agg (vs.map toV).toArray := by
  obtain ⟨cs, rfl, -⟩ := hs
  obtain ⟨fuel, hf⟩ := h
  obtain ⟨vs, h1, h2⟩ := struct_cells hF hf
  refine ⟨vs, h1, ?_⟩
  have : cs.toList = vs.map toV := by simpa [Value.cells] using h2
  rw [← this]

end

/-- a list of elements of es cells each, in memory -/
def IsL (ro : List ABlk) (h : Heap) (v : AVal) (es : Nat) (X : List (List AVal)) : Prop :=
  (∀ x ∈ X, x.length = es) ∧ ((v = .nsl ∧ X = []) ∨ (v = .esl ∧ X = []) ∨ ∃ q cap blk, v = .sl q X.length cap ∧ rdB ro h q = some blk ∧ q.off + X.length * es ≤ blk.n ∧
    ∀ j, j < X.length → ∀ i, i < es → blk.c.get (q.off + j * es + i) = (X.getD j []).getD i und)
theorem flat_get {es : Nat} : ∀ {X : List (List AVal)}, (∀ x ∈ X, x.length = es) → ∀ {i j : Nat}, i < X.length → j < es → X.flatten.getD (i * es + j) und = (X.getD i []).getD j und
  | [], _, i, j, hi, _ => by simp at hi
  | x :: X, h, 0, j, hi, hj => by
    have hx := h x (by simp)
    simp only [List.flatten_cons, Nat.zero_mul, Nat.zero_add]
    rw [List.getD_eq_getElem?_getD, List.getElem?_append_left (by omega), ← List.getD_eq_getElem?_getD]
    rfl
  | x :: X, h, i + 1, j, hi, hj => by
    have hx := h x (by simp)
    simp only [List.flatten_cons]
    rw [List.getD_eq_getElem?_getD, List.getElem?_append_right (by rw [hx, Nat.add_mul]; omega), ← List.getD_eq_getElem?_getD]
    have := flat_get (X := X) (fun y hy => h y (by simp [hy])) (i := i) (by simpa using hi) hj
    rw [show (i + 1) * es + j - x.length = i * es + j by rw [hx, Nat.add_mul]; omega, this]
    simp
theorem flat_len {es : Nat} {X : List (List AVal)} (h : ∀ x ∈ X, x.length = es) : X.flatten.length = X.length * es := by
  induction X with
  | nil => simp
  | cons x X ih =>
    rw [List.flatten_cons, List.length_append, ih fun y hy => h y (by simp [hy]), h x (by simp), List.length_cons, Nat.add_mul]; omega

theorem laidOut : laidOutB Try.prog = true := by kernel_rfl
theorem own : ownKnob Try.prog.godebug = none := by kernel_rfl
theorem cells3 : Try.prog.cellsOf 3 = 1 := by kernel_rfl
theorem cells5 : Try.prog.cellsOf 5 = 1 := by kernel_rfl
abbrev ksH : List (Option IntKind) := [some .i64, some .i64, some .u8, some .i64]
theorem flds24 : Flds 24 ksH := by
  refine ⟨_, Try.underlying24, rfl, by kernel_rfl, fun j hj => ?_⟩
  match j, hj with
  | 0, _ => exact ⟨_, rfl, rfl, cells3, fun k h => by simp at h; subst h; exact Try.underlying3, fun h => by simp at h⟩
  | 1, _ => exact ⟨_, rfl, rfl, cells3, fun k h => by simp at h; subst h; exact Try.underlying3, fun h => by simp at h⟩
  | 2, _ => exact ⟨_, rfl, rfl, cells5, fun k h => by simp at h; subst h; exact Try.underlying5, fun h => by simp at h⟩
  | 3, _ => exact ⟨_, rfl, rfl, cells3, fun k h => by simp at h; subst h; exact Try.underlying3, fun h => by simp at h⟩

theorem env_ok {W : World} {ro : List ABlk} {rl : Rl} (h : ∀ (i : Nat) (b : ABlk), ro[i]? = some b → ∃ x, rl[i]? = some x ∧ ∀ j, j < b.n → x.block < W.heap.size ∧ ∃ v', W.cell? (x.add j) = some v' ∧ VR rl [] (b.c.get j) v') :
    (Env.mk Try.prog W.heap.size W ro rl).Ok := ⟨fun i b hb => h i b hb, Nat.le_refl _⟩
/-- what lies in the read-only blocks -/
def RoP (W : World) (ro : List ABlk) (rl : Rl) : Prop := ∀ (i : Nat) (b : ABlk), ro[i]? = some b → ∃ x, rl[i]? = some x ∧ ∀ j, j < b.n → x.block < W.heap.size ∧ ∃ v', W.cell? (x.add j) = some v' ∧ ∀ y, VR y [] (b.c.get j) v'
theorem RoP.nil (W : World) : RoP W [] [] := fun i b hb => by simp at hb
/-- a cell of a sheet -/
structure Cl where
  l : Int
  hd : Bool
/-- a change -/
structure Ch where
  k : Int
  a : Int
  l : Int
  w : Int
  deriving DecidableEq
def Cl.vs (c : Cl) : List AVal := [.i .u8 c.l, .b c.hd]
def Ch.vs (c : Ch) : List AVal := [.i .i64 c.k, .i .i64 c.a, .i .u8 c.l, .i .i64 c.w]
def Cl.fits (c : Cl) : Prop := 0 ≤ c.l ∧ c.l < 256
def Ch.fits (c : Ch) : Prop := inI64 c.k ∧ inI64 c.a ∧ (0 ≤ c.l ∧ c.l < 256) ∧ inI64 c.w
theorem wf_u8 {n : Int} (h : (Lit.int .u8 n).wf = true) : 0 ≤ n ∧ n < 256 := by
  simp [Lit.wf, IntKind.min, IntKind.max, IntKind.signed, IntKind.bits] at h
  constructor <;> omega
theorem Typed.ch {x : List AVal} (h : Typed ksH x) : ∃ c : Ch, x = c.vs ∧ c.fits := by
  obtain ⟨h1, h2⟩ := h
  obtain ⟨n0, e0, w0⟩ := (h2 0 (by decide)).1 .i64 rfl
  obtain ⟨n1, e1, w1⟩ := (h2 1 (by decide)).1 .i64 rfl
  obtain ⟨n2, e2, w2⟩ := (h2 2 (by decide)).1 .u8 rfl
  obtain ⟨n3, e3, w3⟩ := (h2 3 (by decide)).1 .i64 rfl
  match x, h1 with
  | [p, q, r, s], _ =>
    simp at e0 e1 e2 e3
    subst e0 e1 e2 e3
    exact ⟨⟨n0, n1, n2, n3⟩, rfl, wf_i64 w0, wf_i64 w1, wf_u8 w2, wf_i64 w3⟩
theorem vr_agg {vs : List AVal} {ks : List (Option IntKind)} (h : Typed ks vs) (y : Rl) : VR y [] (.agg vs) (.agg (vs.map toV).toArray) := by
  refine .agg _ _ (by simp) fun i v hv => ?_
  have hi : i < vs.length := (List.getElem?_eq_some_iff.1 hv).1
  have := h.vr (j := i) (by rw [← h.1]; exact hi) y
  have e : vs.getD i und = v := by simp [List.getD, hv]
  rw [e] at this
  have e2 : ((vs.map toV).toArray).getD i undef = toV v := by simp [Array.getD_eq_getD_getElem?, hv]
  rw [e2]; exact this
end Go.Proofs.Ythcadkmfbgonjaa.T

/- Blocks that a function makes for itself; loops whose state is known. -/
open Go.Vm
set_option linter.unusedVariables false
namespace Go.Proofs.Ythcadkmfbgonjaa.T
open Go

/-- a block of the heap that holds these values -/
def Holds (hp : Heap) (b : Nat) (vs : List AVal) : Prop := ∃ blk : ABlk, lget hp b = some (some blk) ∧ blk.n = vs.length ∧ ∀ j, j < vs.length → blk.c.get j = vs.getD j und
/-- what was there is still there -/
def Keep (h hp : Heap) : Prop := h.length ≤ hp.length ∧ ∀ i, i < h.length → hp[i]? = h[i]?

section
variable {ro : List ABlk} {h hp hp' : Heap} {b k e n l p : Nat} {vs : List AVal}
theorem Keep.refl (h : Heap) : Keep h h := ⟨Nat.le_refl _, fun _ _ => rfl⟩
theorem Keep.trans {h1 : Heap} (a : Keep h h1) (c : Keep h1 hp) : Keep h hp := ⟨Nat.le_trans a.1 c.1, fun i hi => by rw [c.2 i (by have := a.1; omega), a.2 i hi]⟩
theorem Keep.app (x : Heap) : Keep h (h ++ x) := ⟨by simp, fun i hi => List.getElem?_append_left hi⟩
theorem Keep.set (a : Keep h hp) (hb : h.length ≤ b) (x : Option ABlk) : Keep h (hp.set b x) := ⟨by simpa using a.1, fun i hi => by rw [List.getElem?_set_ne (by omega)]; exact a.2 i hi⟩
theorem Keep.eq (a : Keep h hp) : hp.take h.length = h := by
  refine List.ext_getElem? fun i => ?_
  rcases Nat.lt_or_ge i h.length with hi | hi
  · rw [List.getElem?_take_of_lt hi, a.2 i hi]
  · rw [List.getElem?_eq_none (by simp; omega), List.getElem?_eq_none hi]
theorem fin_keep {v : AVal} (a : Keep h hp) (hv : v.bel h.length = true) : finM h.length v ⟨hp, h.length, h.length⟩ = some (v, h, h.length, h.length) := by
  rw [fin_take hv, a.eq]
theorem Holds.lt (a : Holds hp b vs) : b < hp.length := by obtain ⟨blk, h1, -⟩ := a; exact lget_lt h1
theorem Holds.new (hp : Heap) (e : Nat) (vs : List AVal) : Holds (hp ++ [some (blkOf e vs)]) hp.length vs := ⟨_, lget_last _ _, rfl, fun j _ => get_blk e vs j⟩
theorem Holds.keep (a : Holds hp b vs) (hk : hp'[b]? = hp[b]?) : Holds hp' b vs := by
  obtain ⟨blk, h1, h2⟩ := a
  exact ⟨blk, by rw [lget_of hk]; exact h1, h2⟩
theorem Holds.ext (a : Holds hp b vs) (x : Heap) : Holds (hp ++ x) b vs := a.keep (List.getElem?_append_left a.lt)
theorem Holds.by (a : Holds hp b vs) (k : Keep hp hp') : Holds hp' b vs := a.keep (k.2 b a.lt)
theorem Holds.one (a : Holds hp b vs) (hk : k < vs.length) : ldM ro ⟨hp, l, p⟩ true 1 (.p (some ⟨false, b, 0 + k⟩)) = some (vs.getD k und) := by
  obtain ⟨blk, h1, h2, h3⟩ := a
  rw [ld_heap rfl h1 (by omega), ← h3 k hk, Nat.zero_add]
theorem row_list {t : Tr} : ∀ (vs : List AVal) (i : Nat), (∀ j, j < vs.length → t.get (i + j) = vs.getD j und) → t.row i vs.length = vs
  | [], i, _ => rfl
  | v :: vs, i, h => by
    simp only [List.length_cons, Tr.row]
    rw [show t.get i = v by simpa using h 0 (by simp), row_list vs (i + 1) fun j hj => by have := h (j + 1) (by simp; omega); rw [show i + 1 + j = i + (j + 1) by omega, this]; simp]
theorem Holds.rd (a : Holds hp b vs) (hn : n = vs.length) : Go.Vm.rd ro hp false n ⟨false, b, 0⟩ = some (.agg vs) := by
  subst hn
  obtain ⟨blk, h1, h2, h3⟩ := a
  have hc : Nat.ble (0 + vs.length) blk.n = true := by rw [Nat.ble_eq]; omega
  simp only [Go.Vm.rd, rdB_heap h1, cond_false, hc, cond_true]
  rw [row_list vs 0 fun j hj => by rw [Nat.zero_add]; exact h3 j hj]
theorem Holds.all (a : Holds hp b vs) (hn : n = vs.length) : ldM ro ⟨hp, l, p⟩ false n (.p (some ⟨false, b, 0⟩)) = some (.agg vs) := by
  simp only [ldM, a.rd hn]
theorem Holds.allA (a : Holds hp b vs) (hn : n = vs.length) : ldA ro hp false n (.p (some ⟨false, b, 0⟩)) = some (.agg vs) := by
  have h1 : (false || Nat.blt b hp.length) = true := by
    have := a.lt
    simpa [Nat.blt_eq] using this
  simp only [ldA, h1, cond_true, a.rd hn]
theorem spliceGet (t : Tr) : ∀ (vs : List AVal) (i j : Nat), (t.splice i vs).get j = if i ≤ j ∧ j < i + vs.length then vs.getD (j - i) und else t.get j
  | [], i, j => by simp [Tr.splice]; intro h1 h2; omega
  | v :: vs, i, j => by
    rw [Tr.splice, spliceGet (t.set i v) vs (i + 1) j, get_set]
    by_cases e : i = j
    · subst e
      rw [if_neg (by omega), if_pos rfl, if_pos (by simp)]; simp
    · by_cases h2 : i ≤ j ∧ j < i + (v :: vs).length
      · have h3 : i + 1 ≤ j ∧ j < i + 1 + vs.length := by simp at h2; omega
        rw [if_pos h2, if_pos h3]
        obtain ⟨q, rfl⟩ : ∃ q, j = i + 1 + q := ⟨j - (i + 1), by omega⟩
        rw [show i + 1 + q - i = q + 1 by omega, show i + 1 + q - (i + 1) = q by omega]
        simp
      · have h3 : ¬ (i + 1 ≤ j ∧ j < i + 1 + vs.length) := by simp at h2; omega
        rw [if_neg h2, if_neg h3, if_neg e]
theorem wrH_all {blk : ABlk} (hb : lget hp b = some (some blk)) (hn : vs.length ≤ blk.n) (ho : ones vs = true) : wrH hp ⟨false, b, 0⟩ vs = some (hp.set b (some { blk with c := blk.c.splice 0 vs })) := by
  have : (Nat.ble (0 + vs.length) blk.n && ones vs) = true := by rw [ho, Bool.and_true, Nat.ble_eq]; omega
  simp only [wrH, cond_false, hb, this, cond_true, lset_eq]
/-- a block is written whole -/
theorem Holds.st {vs' : List AVal} {v : AVal} (a : Holds hp b vs) (hv : v.cells = vs') (hn : n = vs'.length) (hl : vs'.length = vs.length) (ho : ones vs' = true) (hL : h.length ≤ b) (kp : Keep h hp) :
    ∃ hp', stepM ro ⟨hp, h.length, h.length⟩ (.st n (.c (.p (some ⟨false, b, 0⟩))) (.c v)) = some (und, ⟨hp', h.length, h.length⟩) ∧ Holds hp' b vs' ∧ hp'.length = hp.length ∧ (∀ i, i ≠ b → hp'[i]? = hp[i]?) ∧ Keep h hp' := by
  obtain ⟨blk, h1, h2, h3⟩ := a
  subst hv hn
  have hw := wrH_all h1 (vs := v.cells) (by omega) ho
  refine ⟨hp.set b (some { blk with c := blk.c.splice 0 v.cells }), ?_, ⟨_, lget_set h1 _, by simpa using (h2.trans hl.symm), fun j hj => ?_⟩, by simp, fun i hi => List.getElem?_set_ne (Ne.symm hi), kp.set hL _⟩
  · have hbq : Nat.beq v.cells.length v.cells.length = true := Nat.beq_refl _
    have e : (cond (nonp v.cells) h.length h.length) = h.length := by cases nonp v.cells <;> rfl
    simp only [stepM, stepK, opd, st_st, hbq, cond_true, hw, St.mm, Nat.min_eq_left hL, e]
  · show (blk.c.splice 0 v.cells).get j = _
    rw [spliceGet, if_pos (by omega)]; simp
theorem bx_ok (e : Nat) (hn : vs.length = n) : stepM ro ⟨hp, l, p⟩ (.bx e n (.c (.agg vs))) = some (.p (some ⟨false, hp.length, 0⟩), ⟨hp ++ [some (blkOf e vs)], l, p⟩) := by
  subst hn
  have hbq : Nat.beq vs.length vs.length = true := Nat.beq_refl _
  simp only [stepM, stepK, opd, st_bx, AVal.cells, hbq, cond_true, newB, St.mm]
end

theorem ext0 (a : AVal) (l : List AVal) : evP .e (.ext 0 (.c (.tup (a :: l)))) = some a := rfl
theorem ext1 (a b : AVal) (l : List AVal) : evP .e (.ext 1 (.c (.tup (a :: b :: l)))) = some b := rfl
section
variable {ro : List ABlk} {h : Heap} {v : AVal}
theorem row_by {hp : Heap} {z : List Int} (a : IsRow ro h v z) (k : Keep h hp) : IsRow ro hp v z := by
  rw [take_eq k.1 k.2]; exact a.ext _
end

/-- one cell of a block is written -/
theorem Holds.set {ro : List ABlk} {h hp : Heap} {b k : Nat} {vs : List AVal} {v : AVal} (a : Holds hp b vs) (hk : k < vs.length) (hv : v.one = true) (hc : v.cells = [v]) (hn : nonp [v] = true) (hL : h.length ≤ b) (kp : Keep h hp) :
    ∃ hp', stepM ro ⟨hp, h.length, h.length⟩ (.st 1 (.c (.p (some ⟨false, b, 0 + k * 1⟩))) (.c v)) = some (und, ⟨hp', h.length, h.length⟩) ∧ Holds hp' b (vs.set k v) ∧ hp'.length = hp.length ∧ (∀ i, i ≠ b → hp'[i]? = hp[i]?) ∧ Keep h hp' := by
  obtain ⟨blk, h1, h2, h3⟩ := a
  have e : 0 + k * 1 = k := by omega
  refine ⟨hp.set b (some { blk with c := blk.c.set k v }), ?_, ⟨_, lget_set h1 _, by simpa using h2, fun j hj => ?_⟩, by simp, fun i hi => List.getElem?_set_ne (Ne.symm hi), kp.set hL _⟩
  · rw [e, st_heap h1 (by omega) hv hc hn, Nat.min_eq_left hL]
  · show (blk.c.set k v).get j = _
    rw [get_set]
    simp only [List.length_set] at hj
    by_cases e : k = j
    · subst e; simp [List.getD, hj]
    · rw [if_neg e, h3 j hj]
      simp [List.getD, List.getElem?_set_ne e]


/-- a loop whose state is known for each round -/
theorem loop_st {S R : Type} {b : S → Option (S ⊕ R)} (st : Nat → S) (n : Nat) (step : Nat → Option R) (r0 : R) (hout : b (st n) = some (.inr r0)) (hin : ∀ i, i < n → b (st i) = some (match step i with | some r => .inr r | none => .inl (st (i + 1)))) :
    ∀ (k i : Nat), i + k = n → loopX b (st i) = some ((firstS step k i).getD r0)
  | 0, i, hi => by
    simp only [Nat.add_zero] at hi
    subst hi
    exact loopX_out hout
  | k + 1, i, hi => by
    have h1 := hin i (by omega)
    unfold firstS
    cases hs : step i with
    | some r => rw [hs] at h1; exact loopX_out h1
    | none =>
      rw [hs] at h1
      exact loopX_on h1 (loop_st st n step r0 hout hin k (i + 1) (by omega))
theorem dT {p : Prop} [Decidable p] (h : p) : decide p = true := decide_eq_true h
theorem dF {p : Prop} [Decidable p] (h : ¬ p) : decide p = false := decide_eq_false h
theorem at_rowK {ro : List ABlk} {h : Heap} {v : AVal} {z : List Int} (hr : IsRow ro h v z) {i : Nat} (hi : i < z.length) : ∃ p, evP .e (.ixS 1 (.c v) (.c (.i .i64 (i : Int)))) = some p ∧ ∀ {hp : Heap} {l q : Nat}, Keep h hp → ldM ro ⟨hp, l, q⟩ true 1 p = some (.i .i64 (z.getD i 0)) ∧ ldA ro hp true 1 p = some (.i .i64 (z.getD i 0)) := by
  obtain ⟨p, h1, -⟩ := at_row (m := ⟨h, 0, 0⟩) rfl hr hi
  refine ⟨p, h1, fun {hp l q} k => ?_⟩
  obtain ⟨p', g1, g2, g3⟩ := at_row (m := ⟨hp, l, q⟩) rfl (row_by hr k) hi
  rw [h1] at g1; cases g1
  exact ⟨g2, g3⟩
theorem cp {F : Tab} {ro : List ABlk} {h : Heap} {f : Nat} {a : List AVal} {v : AVal} {l p : Nat} (e : callX F ro f a h = some (v, h, h.length, h.length)) (hl : l ≤ h.length) (hp : p ≤ h.length) : callM (callX F ro) ⟨h, l, p⟩ f a = some (v, ⟨h, l, p⟩) :=
  callM_pure e hl hp
theorem cp0 {F : Tab} {ro : List ABlk} {h : Heap} {f : Nat} {a : List AVal} {v : AVal} (e : callX F ro f a h = some (v, h, h.length, h.length)) : callM (callX F ro) ⟨h, h.length, h.length⟩ f a = some (v, ⟨h, h.length, h.length⟩) :=
  callM_pure e (Nat.le_refl _) (Nat.le_refl _)

end Go.Proofs.Ythcadkmfbgonjaa.T

/- Calls with plain arguments that answer a plain value, known beforehand: letters, places, what fits, comparisons. -/
open Go.Vm
set_option linter.unusedVariables false
namespace Go.Proofs.Ythcadkmfbgonjaa.T
open Go

def fnB : AVal → Bool
  | .fn _ [] [] => true
  | v => v.scalar
def plainB : AVal → Bool
  | .agg cs => cs.all fnB
  | v => fnB v
theorem vr_fnB {rl : Rl} {m m' : M} {v : AVal} {v' : Value} (hs : fnB v = true) (h : VR rl m v v') : VR rl m' v v' := by
  by_cases hv : ∃ f, v = .fn f [] []
  · obtain ⟨f, rfl⟩ := hv
    obtain ⟨a', c', rfl, l1, l2, -, -⟩ := h.inv_fn
    exact .fn _ _ _ _ _ l1 l2 (by simp) (by simp)
  · refine vr_scalar ?_ h
    unfold fnB at hs
    split at hs
    · rename_i f; exact absurd ⟨f, rfl⟩ hv
    · exact hs
theorem vr_plain {rl : Rl} {m m' : M} {v : AVal} {v' : Value} (hs : plainB v = true) (h : VR rl m v v') : VR rl m' v v' := by
  by_cases hv : ∃ cs, v = .agg cs
  · obtain ⟨cs, rfl⟩ := hv
    obtain ⟨cs', rfl, hl, h1⟩ := h.inv_agg
    exact .agg _ _ hl fun i u hu => vr_fnB (List.all_eq_true.1 hs u (List.mem_of_getElem? hu)) (h1 i u hu)
  · refine vr_fnB ?_ h
    unfold plainB at hs
    split at hs
    · rename_i cs; exact absurd ⟨cs, rfl⟩ hv
    · exact hs

theorem knownP_ok {E : Env} {call : Caller} (hc : CallOk E.bare call) {K : Nat → List AVal → Option AVal}
    (hK : ∀ f a v, K f a = some v → (∀ x ∈ a, plainB x = true) ∧ plainB v = true ∧ ∃ h' lw lp, call f a [] = some (v, h', lw, lp)) : CallOk E (knownS K) := by
  intro f args h u h2 lw2 lp2 hcl
  unfold knownS at hcl
  split at hcl
  · rename_i v hv
    obtain ⟨hs, hvs, h', lw, lp, h1⟩ := hK _ _ _ hv
    simp only [Option.some.injEq, Prod.mk.injEq] at hcl
    obtain ⟨rfl, rfl, rfl, rfl⟩ := hcl
    obtain ⟨c1, c2⟩ := hc _ _ _ _ _ _ _ h1
    refine ⟨c1, fun m w args' hr hl => ?_⟩
    have hr0 : HR E.bare [] [] w := ⟨hr.below, rfl, by simp, fun i b r K hl => by simp [Live] at hl, fun i j b b' r K K' hl => by simp [Live] at hl⟩
    refine Calls.mono (c2 [] w args' hr0 ⟨hl.1, fun i x hx => vr_plain (hs x (List.mem_of_getElem? hx)) (hl.2 i x hx)⟩) fun e w' hq => ?_
    obtain ⟨v', rfl, m', hvr, T⟩ := hq
    refine ⟨v', rfl, m, vr_plain hvs hvr, ?_⟩
    have keep : ∀ r, r < w.heap.size → w'.heap[r]? = w.heap[r]? := fun r hlt => T.keepo r hlt fun i b K hl => by simp [Live] at hl
    have lt : ∀ i b r K, Live m h i b r K → r < w.heap.size := fun i b r K hl => by
      exact hr.lt hl
    refine ⟨⟨[], by simp⟩, ⟨T.hr.below, hr.len, hr.real, fun i b r K hl => ?_, hr.inj⟩, T.size, Nat.le_refl _, Nat.le_refl _, fun i _ _ => ⟨rfl, fun b r K hl => keep r (lt _ _ _ _ hl)⟩,
      fun i _ _ b' hb => ⟨b', hb, rfl, ⟨rfl, rfl⟩, fun _ _ => .inr rfl⟩, fun r hlt _ => keep r hlt, fun i b r K hl _ => ⟨i, b, K, hl⟩⟩
    obtain ⟨hB, hc⟩ := hr.blk i b r K hl
    exact ⟨hB, by rw [keep r (lt _ _ _ _ hl)]; exact hc⟩
  · cases hcl

def cmpI (a b : Int) : Int := if a < b then -1 else if b < a then 1 else 0
def K1 (f : Nat) (args : List AVal) : Option AVal :=
  cond (Nat.beq f 76) (match args with
    | [.i .u8 x] => some (.b (decide (97 ≤ x ∧ x ≤ 122)))
    | _ => none) <|
  cond (Nat.beq f 77) (match args with
    | [.i .i64 a, .i .i64 x, .i .i64 b] => some (.b (decide (a ≤ x ∧ x ≤ b)))
    | _ => none) <|
  cond (Nat.beq f 92) (match args with
    | [] => some (.agg [.fn 96 [] [], .fn 96 [] [], .fn 96 [] [], .fn 96 [] [], .fn 97 [] [], .fn 96 [] [], .fn 96 [] [], .fn 98 [] [], .fn 96 [] []])
    | _ => none) <|
  cond (Nat.beq f 100) (match args with
    | [.i .i64 a, .i .i64 b] => some (.i .i64 (cmpI a b))
    | _ => none) <|
  cond (Nat.beq f 101) (match args with
    | [.i .u8 a, .i .u8 b] => some (.i .i64 (cmpI a b))
    | _ => none) none
abbrev F0 : Tab := ⟨F, noCall⟩
theorem beqE {f k : Nat} (h : Nat.beq f k = true) : f = k := Nat.eq_of_beq_eq_true h

section
variable {ov : Caller} {ro : List ABlk} {h : Heap}
theorem letter0 (x : Int) (ho : ov 76 [.i .u8 x] h = none) : callX ⟨F, ov⟩ ro 76 [.i .u8 x] h = some (.b (decide (97 ≤ x ∧ x ≤ 122)), h, h.length, h.length) := by
  refine g76_ok (meansX_ok _ ro) ho ?_
  unfold g76
  simp only [forceB_eq, ltI_eq, tupA]
  have e : decide (97 ≤ x ∧ x ≤ 122) = (!decide (x < 97) && !decide (122 < x)) := by rw [Bool.eq_iff_iff]; simp
  rw [e]
  cases decide (x < 97) <;> cases decide (122 < x) <;> exact fin_pure rfl
theorem from0 (a x b : Int) (ho : ov 77 [.i .i64 a, .i .i64 x, .i .i64 b] h = none) : callX ⟨F, ov⟩ ro 77 [.i .i64 a, .i .i64 x, .i .i64 b] h = some (.b (decide (a ≤ x ∧ x ≤ b)), h, h.length, h.length) := by
  refine g77_ok (meansX_ok _ ro) ho ?_
  unfold g77
  simp only [forceB_eq, ltI_eq, tupA]
  have e : decide (a ≤ x ∧ x ≤ b) = (!decide (x < a) && !decide (b < x)) := by rw [Bool.eq_iff_iff]; simp
  rw [e]
  cases decide (x < a) <;> cases decide (b < x) <;> exact fin_pure rfl
theorem nan0 (x : Int) (ho : ov 102 [.i .i64 x] h = none) : callX ⟨F, ov⟩ ro 102 [.i .i64 x] h = some (.b false, h, h.length, h.length) := by
  refine g102_ok (meansX_ok _ ro) ho ?_
  unfold g102
  simp only [forceB_eq, eqI_eq, tupA, beq_self_eq_true, Bool.not_true]
  exact fin_pure rfl
theorem nanb0 (x : Int) (ho : ov 103 [.i .u8 x] h = none) : callX ⟨F, ov⟩ ro 103 [.i .u8 x] h = some (.b false, h, h.length, h.length) := by
  refine g103_ok (meansX_ok _ ro) ho ?_
  unfold g103
  simp only [forceB_eq, eqI_eq, tupA, beq_self_eq_true, Bool.not_true]
  exact fin_pure rfl
theorem cmp0 (a b : Int) (ho : ov 100 [.i .i64 a, .i .i64 b] h = none) (h1 : ∀ x, ov 102 [.i .i64 x] h = none) : callX ⟨F, ov⟩ ro 100 [.i .i64 a, .i .i64 b] h = some (.i .i64 (cmpI a b), h, h.length, h.length) := by
  refine g100_ok (meansX_ok _ ro) ho ?_
  unfold g100
  simp only [meansX_call, cp0 (nan0 (ro := ro) a (h1 a)), cp0 (nan0 (ro := ro) b (h1 b)), bindP_some, asB_b, cond_false, forceB_eq, ltI_eq, tupA]
  unfold cmpI
  by_cases c1 : a < b
  · simp only [c1, decide_true, cond_true, if_true]; exact fin_pure rfl
  · by_cases c2 : b < a
    · simp only [c1, c2, decide_true, decide_false, cond_true, cond_false, if_true, if_false]; exact fin_pure rfl
    · simp only [c1, c2, decide_false, cond_false, if_false]; exact fin_pure rfl
theorem cmpb0 (a b : Int) (ho : ov 101 [.i .u8 a, .i .u8 b] h = none) (h1 : ∀ x, ov 103 [.i .u8 x] h = none) : callX ⟨F, ov⟩ ro 101 [.i .u8 a, .i .u8 b] h = some (.i .i64 (cmpI a b), h, h.length, h.length) := by
  refine g101_ok (meansX_ok _ ro) ho ?_
  unfold g101
  simp only [meansX_call, cp0 (nanb0 (ro := ro) a (h1 a)), cp0 (nanb0 (ro := ro) b (h1 b)), bindP_some, asB_b, cond_false, forceB_eq, ltI_eq, tupA]
  unfold cmpI
  by_cases c1 : a < b
  · simp only [c1, decide_true, cond_true, if_true]; exact fin_pure rfl
  · by_cases c2 : b < a
    · simp only [c1, c2, decide_true, decide_false, cond_true, cond_false, if_true, if_false]; exact fin_pure rfl
    · simp only [c1, c2, decide_false, cond_false, if_false]; exact fin_pure rfl
end
def isA (o : Option (AVal × Heap × Nat × Nat)) : Bool := match o with
  | some (.agg [.fn 96 [] [], .fn 96 [] [], .fn 96 [] [], .fn 96 [] [], .fn 97 [] [], .fn 96 [] [], .fn 96 [] [], .fn 98 [] [], .fn 96 [] []], _) => true
  | _ => false
theorem tab0 : ∃ h lw lp, callX F0 [] 92 [] [] = some (.agg [.fn 96 [] [], .fn 96 [] [], .fn 96 [] [], .fn 96 [] [], .fn 97 [] [], .fn 96 [] [], .fn 96 [] [], .fn 98 [] [], .fn 96 [] []], h, lw, lp) := by
  have h : ∃ r, callA F0 [] (exec F0 [] 60) 92 [] [] = some r ∧ isA (some r) = true := by
    have h1 : isA (callA F0 [] (exec F0 [] 60) 92 [] []) = true := by decide +kernel
    cases hc : callA F0 [] (exec F0 [] 60) 92 [] [] with
    | none => rw [hc] at h1; cases h1
    | some r => rw [hc] at h1; exact ⟨r, rfl, h1⟩
  obtain ⟨⟨v, hp, lw, lp⟩, h1, h2⟩ := h
  unfold isA at h2
  split at h2
  · rename_i e
    cases e
    exact ⟨_, _, _, callX_some.2 ⟨60, h1⟩⟩
  · cases h2

theorem K1_ok : ∀ f a v, K1 f a = some v → (∀ x ∈ a, plainB x = true) ∧ plainB v = true ∧ ∃ h' lw lp, callX F0 [] f a [] = some (v, h', lw, lp) := by
  intro f a v hK
  unfold K1 at hK
  cases e1 : Nat.beq f 76
  · cases e2 : Nat.beq f 77
    · cases e3 : Nat.beq f 92
      · cases e4 : Nat.beq f 100
        · cases e5 : Nat.beq f 101
          · simp only [e1, e2, e3, e4, e5, cond_false] at hK; cases hK
          · simp only [e1, e2, e3, e4, e5, cond_false, cond_true] at hK
            obtain rfl := beqE e5
            split at hK
            · cases hK; exact ⟨by simp [plainB, fnB, AVal.scalar], rfl, _, _, _, cmpb0 _ _ rfl fun _ => rfl⟩
            · cases hK
        · simp only [e1, e2, e3, e4, cond_false, cond_true] at hK
          obtain rfl := beqE e4
          split at hK
          · cases hK; exact ⟨by simp [plainB, fnB, AVal.scalar], rfl, _, _, _, cmp0 _ _ rfl fun _ => rfl⟩
          · cases hK
      · simp only [e1, e2, e3, cond_false, cond_true] at hK
        obtain rfl := beqE e3
        split at hK
        · cases hK; exact ⟨by simp, by decide, tab0⟩
        · cases hK
    · simp only [e1, e2, cond_false, cond_true] at hK
      obtain rfl := beqE e2
      split at hK
      · cases hK; exact ⟨by simp [plainB, fnB, AVal.scalar], rfl, _, _, _, from0 _ _ _ rfl⟩
      · cases hK
  · simp only [e1, cond_true] at hK
    obtain rfl := beqE e1
    split at hK
    · cases hK; exact ⟨by simp [plainB, fnB, AVal.scalar], rfl, _, _, _, letter0 _ rfl⟩
    · cases hK
theorem O1_ok {E : Env} (hE : E.Ok) (hm : E.P.follows .mixedOrders = true) (hF : FOk E.P F) : CallOk E (knownS K1) :=
  knownP_ok (callX_sound (E := E.bare) (Env.bare_ok hE) hm (F := F0) hF noCall_ok) K1_ok

/-- or: the first that is not 0 -/
def orI (a b c : Int) : Int := if a ≠ 0 then a else if b ≠ 0 then b else c
theorem or0 {ov : Caller} {ro : List ABlk} {h : Heap} {v : AVal} {a b c : Int} (hr : IsRow ro h v [a, b, c]) (ho : ov 99 [v] h = none) : callX ⟨F, ov⟩ ro 99 [v] h = some (.i .i64 (orI a b c), h, h.length, h.length) := by
  refine g99_ok (meansX_ok _ ro) ho ?_
  unfold g99
  simp only [len_row hr, bindO_some, asI_i, meansX_loop]
  have at' : ∀ i : Nat, i < 3 → ∃ p, evP .e (.ixS 1 (.c v) (.c (.i .i64 (i : Int)))) = some p ∧ ldM ro ⟨h, h.length, h.length⟩ true 1 p = some (.i .i64 ([a, b, c].getD i 0)) := fun i hi => by
    obtain ⟨p, h1, h2⟩ := at_rowK hr (i := i) hi
    exact ⟨p, h1, (h2 (Keep.refl h)).1⟩
  have step : ∀ i : Nat, i < 3 → g99_b0 (meansX ⟨F, ov⟩ ro) ro v 3 ⟨h, h.length, h.length⟩ (i : Int) = some (match (if [a, b, c].getD i 0 ≠ 0 then some ([a, b, c].getD i 0) else none) with | some r => .inr (.inr r) | none => .inl ((i + 1 : Nat) : Int)) := fun i hi => by
    obtain ⟨p, h1, h2⟩ := at' i hi
    have e : decide ((i : Int) < 3) = true := by simp; omega
    simp only [g99_b0, forceB_eq, ltI_eq, e, cond_true, h1, bindO_some, h2, asI_i, eqI_eq, forceI_eq]
    by_cases hz : [a, b, c].getD i 0 = 0
    · rw [hz]; simp only [beq_self_eq_true, Bool.not_true, cond_false]
      rw [wr_id' (by omega) (by omega)]
      rfl
    · have : ([a, b, c].getD i 0 == 0) = false := by simpa using hz
      rw [this, if_pos hz]; rfl
  have out : g99_b0 (meansX ⟨F, ov⟩ ro) ro v 3 ⟨h, h.length, h.length⟩ ((3 : Nat) : Int) = some (.inr (.inl ())) := by
    simp only [g99_b0, forceB_eq, ltI_eq]; simp
  have hl := loop_st (b := fun s => g99_b0 (meansX ⟨F, ov⟩ ro) ro v 3 ⟨h, h.length, h.length⟩ s) (fun i => (i : Int)) 3 (fun i => if [a, b, c].getD i 0 ≠ 0 then some (.inr ([a, b, c].getD i 0)) else none) (.inl ()) out (fun i hi => by
    rw [step i hi]
    by_cases hz : [a, b, c].getD i 0 = 0
    · rw [if_neg (by simpa using hz), if_neg (by simpa using hz)]
    · rw [if_pos hz, if_pos hz]) 3 0 rfl
  have e0 : ((0 : Nat) : Int) = 0 := rfl
  have e3 : (([a, b, c].length : Nat) : Int) = 3 := rfl
  simp only [e0] at hl
  rw [e3, hl]
  simp only [firstS, Nat.reduceAdd, List.getD_cons_zero, List.getD_cons_succ]
  unfold orI
  by_cases ha : a = 0
  · by_cases hb : b = 0
    · by_cases hc : c = 0
      · simp [ha, hb, hc, bindO, tupA]; exact fin_pure rfl
      · simp [ha, hb, hc, bindO, tupA]; exact fin_pure rfl
    · simp [ha, hb, bindO, tupA]; exact fin_pure rfl
  · simp [ha, bindO, tupA]; exact fin_pure rfl
end Go.Proofs.Ythcadkmfbgonjaa.T

/- What fits, and changes turned one against the other, known beforehand: reckoned in empty memory. -/
open Go.Vm
set_option linter.unusedVariables false
namespace Go.Proofs.Ythcadkmfbgonjaa.T
open Go

abbrev Ch.v (c : Ch) : AVal := .agg c.vs
abbrev Fa : Tab := ⟨F, knownS K1⟩
theorem knownA {K : Nat → List AVal → Option AVal} {f : Nat} {a : List AVal} {v : AVal} (h : K f a = some v) (hp : Heap) : knownS K f a hp = some (v, hp, hp.length, hp.length) := by
  unfold knownS; rw [h]
theorem callA1 {ro : List ABlk} {hp : Heap} {f : Nat} {a : List AVal} {v : AVal} (h : K1 f a = some v) : callX Fa ro f a hp = some (v, hp, hp.length, hp.length) := callX_ov (knownA h hp)

theorem seq_ch (ng : Bool) (c d : Ch) : evP .e (.seq ng [(0, false), (1, false), (2, false), (3, false)] (.c c.v) (.c d.v)) = some (.b (if ng then !decide (c = d) else decide (c = d))) := by
  have e : decide (c = d) = (decide (c.k = d.k) && (decide (c.a = d.a) && (decide (c.l = d.l) && decide (c.w = d.w)))) := by
    cases c; cases d; simp only [Ch.mk.injEq, Bool.decide_and]
  have hb : ∀ a b : Int, eqI a b = decide (a = b) := fun a b => by rw [eqI_eq]; rfl
  have hk : ∀ k, kEq k k = true := fun k => (kEq_iff k k).2 rfl
  simp only [evP, ev_seq, opd, Ch.vs, seqA, lget, hb, hk, cond_true]
  rw [e]
  cases decide (c.k = d.k) <;> cases decide (c.a = d.a) <;> cases decide (c.l = d.l) <;> cases decide (c.w = d.w) <;> cases ng <;> rfl

def fitP (c : Ch) (n : Int) : Bool :=
  if c.k = 1 then (decide (0 ≤ c.a ∧ c.a ≤ n) && decide (97 ≤ c.l ∧ c.l ≤ 122)) && decide (0 ≤ c.w ∧ c.w ≤ 4)
  else if c.k = 2 then (decide (0 ≤ c.a ∧ c.a ≤ wr .i64 (n - 1)) && decide (c.l = 0)) && decide (c.w = 0)
  else decide (c = ⟨0, 0, 0, 0⟩)
def fitR (c : Ch) (n : Int) : Bool :=
  if c.k = 0 then decide (c = ⟨0, 0, 0, 0⟩)
  else if c.k = 1 then decide (0 ≤ c.a ∧ c.a ≤ n ∧ 97 ≤ c.l ∧ c.l ≤ 122 ∧ 0 ≤ c.w ∧ c.w < 5)
  else if c.k = 2 then decide (0 ≤ c.a ∧ c.a < n ∧ c.l = 0 ∧ c.w = 0) else false
/- reading boxed changes in concrete memory -/
section
variable {ro : List ABlk} {l p : Nat} {x : Heap} {c : Ch}
theorem rd_all {b : Nat} (h : lget x b = some (some (blkOf 24 c.vs))) : ldM ro ⟨x, l, p⟩ false 4 (.p (some ⟨false, b, 0⟩)) = some c.v := by
  simp only [ldM, rd, rdB, cond_false, h]; rfl
theorem rd_k {b : Nat} (h : lget x b = some (some (blkOf 24 c.vs))) : ldM ro ⟨x, l, p⟩ true 1 (.p (some ⟨false, b, 0⟩)) = some (.i .i64 c.k) := by
  simp only [ldM, rd, rdB, cond_false, h]; rfl
theorem rd_a {b : Nat} (h : lget x b = some (some (blkOf 24 c.vs))) : ldM ro ⟨x, l, p⟩ true 1 (.p (some ⟨false, b, 1⟩)) = some (.i .i64 c.a) := by
  simp only [ldM, rd, rdB, cond_false, h]; rfl
theorem rd_l {b : Nat} (h : lget x b = some (some (blkOf 24 c.vs))) : ldM ro ⟨x, l, p⟩ true 1 (.p (some ⟨false, b, 2⟩)) = some (.i .u8 c.l) := by
  simp only [ldM, rd, rdB, cond_false, h]; rfl
theorem rd_w {b : Nat} (h : lget x b = some (some (blkOf 24 c.vs))) : ldM ro ⟨x, l, p⟩ true 1 (.p (some ⟨false, b, 3⟩)) = some (.i .i64 c.w) := by
  simp only [ldM, rd, rdB, cond_false, h]; rfl
end
theorem fa (b k : Nat) : evP .e (.faddr k (.c (.p (some ⟨false, b, 0⟩)))) = some (.p (some ⟨false, b, 0 + k⟩)) := rfl

/- steps that the kernel sees as such -/
theorem bindP_of {β : Type} {o : Option (AVal × Mm)} {v : AVal} {m : Mm} {f : AVal → Mm → Option β} (h : o = some (v, m)) : bindP o f = f v m := by rw [h]; rfl
theorem bindO_of {α β : Type} {o : Option α} {v : α} {f : α → Option β} (h : o = some v) : bindO o f = f v := by rw [h]; rfl
theorem pS {β : Type} (v : AVal) (m : Mm) (f : AVal → Mm → Option β) : bindP (some (v, m)) f = f v m := bindP_of (Eq.trans rfl rfl)
theorem oS {α β : Type} (v : α) (f : α → Option β) : bindO (some v) f = f v := bindO_of (Eq.trans rfl rfl)
theorem fS (b k : Nat) : evP .e (.faddr k (.c (.p (some ⟨false, b, 0⟩)))) = some (.p (some ⟨false, b, k⟩)) := by rw [fa, Nat.zero_add]
theorem cT {α : Type} (a b : α) : cond true a b = a := by rw [cond_true]
theorem cF {α : Type} (a b : α) : cond false a b = b := by rw [cond_false]
theorem fits0 (c : Ch) (n : Int) : ∃ h lw lp, callX Fa [] 62 [c.v, .i .i64 n] [] = some (.b (fitP c n), h, lw, lp) := by
  suffices h : ∃ r : AVal × Heap × Nat × Nat, g62 (meansX Fa []) [] c.v n ⟨[], 0, 0⟩ = some r ∧ r.1 = .b (fitP c n) by
    obtain ⟨⟨v, hp, lw, lp⟩, h1, h2⟩ := h
    cases h2
    exact ⟨_, _, _, g62_ok (meansX_ok _ _) rfl h1⟩
  unfold g62
  have s1 : stepM [] ⟨[], 0, 0⟩ (.bx 24 4 (.c c.v)) = some (.p (some ⟨false, 0, 0⟩), ⟨[some (blkOf 24 c.vs)], 0, 0⟩) := rfl
  have hb : lget [some (blkOf 24 c.vs)] 0 = some (some (blkOf 24 c.vs)) := rfl
  have k77 : ∀ a x b, callM (callX Fa []) ⟨[some (blkOf 24 c.vs)], 0, 0⟩ 77 [.i .i64 a, .i .i64 x, .i .i64 b] = some (.b (decide (a ≤ x ∧ x ≤ b)), ⟨[some (blkOf 24 c.vs)], 0, 0⟩) := fun a x b => cp (callA1 rfl) (Nat.zero_le _) (Nat.zero_le _)
  have k76 : ∀ x, callM (callX Fa []) ⟨[some (blkOf 24 c.vs)], 0, 0⟩ 76 [.i .u8 x] = some (.b (decide (97 ≤ x ∧ x ≤ 122)), ⟨[some (blkOf 24 c.vs)], 0, 0⟩) := fun x => cp (callA1 rfl) (Nat.zero_le _) (Nat.zero_le _)
  have hz : (fillA [(AVal.i IntKind.i64 0), (AVal.i IntKind.i64 0), (AVal.i IntKind.u8 0), (AVal.i IntKind.i64 0)] [((0, 1), (.i .i64 0))]).map AVal.agg = some (Ch.v ⟨0, 0, 0, 0⟩) := rfl
  have sq : evP .e (.seq false [(0, false), (1, false), (2, false), (3, false)] (.c c.v) (.c (Ch.v ⟨0, 0, 0, 0⟩))) = some (.b (decide (c = ⟨0, 0, 0, 0⟩))) := seq_ch false c _
  simp only [s1, bindP_some, fa, bindO_some, Nat.zero_add, rd_k hb, rd_a hb, rd_l hb, rd_w hb, rd_all hb, asI_i, forceB_eq, forceI_eq, eqI_eq, meansX_call, k77, k76, asB_b, hz, sq, tupA]
  unfold fitP
  by_cases e1 : c.k = 1
  · rw [if_pos e1]
    have : (c.k == 1) = true := by simpa using e1
    simp only [this, cond_true]
    cases decide (0 ≤ c.a ∧ c.a ≤ n)
    · exact ⟨_, fin_keep (h := []) ⟨by simp, by simp⟩ rfl, rfl⟩
    · simp only [cond_true, bindO_some]
      cases decide (97 ≤ c.l ∧ c.l ≤ 122)
      · exact ⟨_, fin_keep (h := []) ⟨by simp, by simp⟩ rfl, rfl⟩
      · simp only [cond_true, bindO_some]
        exact ⟨_, fin_keep (h := []) ⟨by simp, by simp⟩ rfl, rfl⟩
  · rw [if_neg e1]
    have : (c.k == 1) = false := by simpa using e1
    simp only [this, cond_false]
    by_cases e2 : c.k = 2
    · rw [if_pos e2]
      have : (c.k == 2) = true := by simpa using e2
      simp only [this, cond_true]
      cases decide (0 ≤ c.a ∧ c.a ≤ wr .i64 (n - 1))
      · exact ⟨_, fin_keep (h := []) ⟨by simp, by simp⟩ rfl, rfl⟩
      · simp only [cond_true, bindO_some]
        have e3 : (c.l == 0) = decide (c.l = 0) := rfl
        have e4 : (c.w == 0) = decide (c.w = 0) := rfl
        rw [e3, e4]
        cases decide (c.l = 0)
        · exact ⟨_, fin_keep (h := []) ⟨by simp, by simp⟩ rfl, rfl⟩
        · exact ⟨_, fin_keep (h := []) ⟨by simp, by simp⟩ rfl, rfl⟩
    · rw [if_neg e2]
      have : (c.k == 2) = false := by simpa using e2
      simp only [this, cond_false]
      exact ⟨_, fin_keep (h := []) ⟨by simp, by simp⟩ rfl, rfl⟩
theorem fitsR0 (c : Ch) (n : Int) : ∃ h lw lp, callX Fa [] 59 [c.v, .i .i64 n] [] = some (.b (fitR c n), h, lw, lp) := by
  suffices h : ∃ r : AVal × Heap × Nat × Nat, g59 (meansX Fa []) [] c.v n ⟨[], 0, 0⟩ = some r ∧ r.1 = .b (fitR c n) by
    obtain ⟨⟨v, hp, lw, lp⟩, h1, h2⟩ := h
    cases h2
    exact ⟨_, _, _, g59_ok (meansX_ok _ _) rfl h1⟩
  unfold g59
  have s1 : stepM [] ⟨[], 0, 0⟩ (.bx 24 4 (.c c.v)) = some (.p (some ⟨false, 0, 0⟩), ⟨[some (blkOf 24 c.vs)], 0, 0⟩) := rfl
  have hb : lget [some (blkOf 24 c.vs)] 0 = some (some (blkOf 24 c.vs)) := rfl
  have hz : (fillA [(AVal.i IntKind.i64 0), (AVal.i IntKind.i64 0), (AVal.i IntKind.u8 0), (AVal.i IntKind.i64 0)] []).map AVal.agg = some (Ch.v ⟨0, 0, 0, 0⟩) := rfl
  have sq : evP .e (.seq false [(0, false), (1, false), (2, false), (3, false)] (.c c.v) (.c (Ch.v ⟨0, 0, 0, 0⟩))) = some (.b (decide (c = ⟨0, 0, 0, 0⟩))) := seq_ch false c _
  simp only [s1, bindP_some, fa, bindO_some, Nat.zero_add, rd_k hb, rd_a hb, rd_l hb, rd_w hb, rd_all hb, asI_i, forceB_eq, forceI_eq, eqI_eq, ltI_eq, asB_b, hz, sq, tupA]
  have fin : ∀ b : Bool, finM ([] : Heap).length (.b b) ⟨[some (blkOf 24 c.vs)], 0, 0⟩ = some (.b b, [], 0, 0) := fun b => fin_keep (h := []) ⟨by simp, by simp⟩ rfl
  have hn : ([] : Heap).length = 0 := rfl
  rw [hn] at fin
  unfold fitR
  by_cases e0 : c.k = 0
  · rw [if_pos e0]
    have : (c.k == 0) = true := by simpa using e0
    simp only [this, cond_true]
    exact ⟨_, fin _, rfl⟩
  rw [if_neg e0]
  have : (c.k == 0) = false := by simpa using e0
  simp only [this, cond_false]
  by_cases e1 : c.k = 1
  · rw [if_pos e1]
    have : (c.k == 1) = true := by simpa using e1
    simp only [this, cond_true]
    have e : decide (0 ≤ c.a ∧ c.a ≤ n ∧ 97 ≤ c.l ∧ c.l ≤ 122 ∧ 0 ≤ c.w ∧ c.w < 5) = (!decide (c.a < 0) && (!decide (n < c.a) && (!decide (c.l < 97) && (!decide (122 < c.l) && (!decide (c.w < 0) && decide (c.w < 5)))))) := by rw [Bool.eq_iff_iff]; simp
    rw [e]
    cases decide (c.a < 0) <;> cases decide (n < c.a) <;> cases decide (c.l < 97) <;> cases decide (122 < c.l) <;> cases decide (c.w < 0) <;> exact ⟨_, fin _, rfl⟩
  · rw [if_neg e1]
    have : (c.k == 1) = false := by simpa using e1
    simp only [this, cond_false]
    by_cases e2 : c.k = 2
    · rw [if_pos e2]
      have : (c.k == 2) = true := by simpa using e2
      simp only [this, cond_true]
      have e : decide (0 ≤ c.a ∧ c.a < n ∧ c.l = 0 ∧ c.w = 0) = (!decide (c.a < 0) && (decide (c.a < n) && ((c.l == 0) && (c.w == 0)))) := by rw [Bool.eq_iff_iff]; simp
      rw [e]
      cases decide (c.a < 0) <;> cases decide (c.a < n) <;> cases (c.l == 0) <;> exact ⟨_, fin _, rfl⟩
    · rw [if_neg e2]
      have : (c.k == 2) = false := by simpa using e2
      simp only [this, cond_false]
      exact ⟨_, fin _, rfl⟩
end Go.Proofs.Ythcadkmfbgonjaa.T

/- One change turned against another, by the program and by the reference: the same. -/
open Go.Vm
set_option linter.unusedVariables false
namespace Go.Proofs.Ythcadkmfbgonjaa.T
open Go

def upC (c : Ch) : Ch := ⟨c.k, wr .i64 (c.a + 1), c.l, c.w⟩
def putP (c o : Ch) : Ch := if o.a < c.a ∨ (o.a = c.a ∧ (o.w < c.w ∨ (o.w = c.w ∧ o.l < c.l))) then upC c else c
def hideP (c o : Ch) : Ch := if o.a ≤ c.a then upC c else c
/-- a change turned against another one -/
def turnP (c o : Ch) : Ch := if o.k ≠ 1 ∨ c.k = 0 then c else if o.a < c.a ∨ (o.a = c.a ∧ (c.k = 2 ∨ o.w < c.w ∨ (o.w = c.w ∧ o.l < c.l))) then upC c else c

abbrev zC : List AVal := [(AVal.i IntKind.i64 0), (AVal.i IntKind.i64 0), (AVal.i IntKind.u8 0), (AVal.i IntKind.i64 0)]
abbrev X0 (c o : Ch) : Heap := [some (blkOf 24 c.vs), some (blkOf 24 o.vs), some (blkOf 24 zC)]
/-- the result written, and given -/
theorem out0 (a o r : Ch) : ∃ hp, stepM [] ⟨X0 a o, 0, 0⟩ (.st 4 (.c (.p (some ⟨false, 2, 0⟩))) (.c r.v)) = some (und, ⟨hp, 0, 0⟩) ∧ ldM [] ⟨hp, 0, 0⟩ false 4 (.p (some ⟨false, 2, 0⟩)) = some r.v := ⟨_, rfl, rfl⟩
theorem fin0 (r : Ch) (hp : Heap) : finM ([] : Heap).length r.v ⟨hp, 0, 0⟩ = some (r.v, [], 0, 0) := fin_keep (h := []) ⟨by simp, by simp⟩ rfl
abbrev Y0 (c o : Ch) (x : Int) : Heap := [some { blkOf 24 c.vs with c := (blkOf 24 c.vs).c.set 1 (.i .i64 x) }, some (blkOf 24 o.vs), some (blkOf 24 zC)]
theorem set0a (c o : Ch) (x : Int) : stepM [] ⟨X0 c o, 0, 0⟩ (.st 1 (.c (.p (some ⟨false, 0, 1⟩))) (.c (.i .i64 x))) = some (und, ⟨Y0 c o x, 0, 0⟩) := by
  have hb : lget (X0 c o) 0 = some (some (blkOf 24 c.vs)) := rfl
  rw [st_heap hb (show 1 < 4 by decide) rfl rfl rfl]
  rfl
theorem set0b (c o : Ch) (x : Int) : ldM [] ⟨Y0 c o x, 0, 0⟩ false 4 (.p (some ⟨false, 0, 0⟩)) = some (Ch.v ⟨c.k, x, c.l, c.w⟩) := by
  have hb : rdB [] (Y0 c o x) ⟨false, 0, 0⟩ = some { blkOf 24 c.vs with c := (blkOf 24 c.vs).c.set 1 (.i .i64 x) } := rfl
  simp only [ldM, rd, hb, cond_false]
  show (cond (Nat.ble (0 + 4) 4) (some (AVal.agg (((blkOf 24 c.vs).c.set 1 (.i .i64 x)).row 0 4))) none) = _
  simp only [Tr.row, get_set, get_blk, Ch.v, Ch.vs]
  rfl
theorem set0c (c o : Ch) (x : Int) (r : Ch) : ∃ hp, stepM [] ⟨Y0 c o x, 0, 0⟩ (.st 4 (.c (.p (some ⟨false, 2, 0⟩))) (.c r.v)) = some (und, ⟨hp, 0, 0⟩) ∧ ldM [] ⟨hp, 0, 0⟩ false 4 (.p (some ⟨false, 2, 0⟩)) = some r.v := by
  have hb : Holds (Y0 c o x) 2 zC := ⟨blkOf 24 zC, rfl, rfl, fun j _ => get_blk 24 zC j⟩
  obtain ⟨hp, h1, h2, -⟩ := hb.st (ro := []) (h := []) (v := r.v) (vs' := r.vs) (n := 4) rfl rfl rfl rfl (by simp) ⟨by simp, by simp⟩
  exact ⟨hp, h1, h2.all rfl⟩
theorem set0 (c o : Ch) (x : Int) : stepM [] ⟨X0 c o, 0, 0⟩ (.st 1 (.c (.p (some ⟨false, 0, 1⟩))) (.c (.i .i64 x))) = some (und, ⟨Y0 c o x, 0, 0⟩) ∧
    ldM [] ⟨Y0 c o x, 0, 0⟩ false 4 (.p (some ⟨false, 0, 0⟩)) = some (Ch.v ⟨c.k, x, c.l, c.w⟩) ∧
    ∀ r : Ch, ∃ hp, stepM [] ⟨Y0 c o x, 0, 0⟩ (.st 4 (.c (.p (some ⟨false, 2, 0⟩))) (.c r.v)) = some (und, ⟨hp, 0, 0⟩) ∧ ldM [] ⟨hp, 0, 0⟩ false 4 (.p (some ⟨false, 2, 0⟩)) = some r.v :=
  ⟨set0a c o x, set0b c o x, set0c c o x⟩

theorem turnR0 (c o : Ch) : ∃ h lw lp, callX Fa [] 67 [c.v, o.v] [] = some ((turnP c o).v, h, lw, lp) := by
  suffices h : ∃ r : AVal × Heap × Nat × Nat, g67 (meansX Fa []) [] c.v o.v ⟨[], 0, 0⟩ = some r ∧ r.1 = (turnP c o).v by
    obtain ⟨⟨v, hp, lw, lp⟩, h1, h2⟩ := h
    cases h2
    exact ⟨_, _, _, g67_ok (meansX_ok _ _) rfl h1⟩
  unfold g67
  have s1 : stepM [] ⟨[], 0, 0⟩ (.bx 24 4 (.c c.v)) = some (.p (some ⟨false, 0, 0⟩), ⟨[some (blkOf 24 c.vs)], 0, 0⟩) := rfl
  have s2 : stepM [] ⟨[some (blkOf 24 c.vs)], 0, 0⟩ (.bx 24 4 (.c o.v)) = some (.p (some ⟨false, 1, 0⟩), ⟨[some (blkOf 24 c.vs), some (blkOf 24 o.vs)], 0, 0⟩) := rfl
  have s3 : stepM [] ⟨[some (blkOf 24 c.vs), some (blkOf 24 o.vs)], 0, 0⟩ (.al 24 zC) = some (.p (some ⟨false, 2, 0⟩), ⟨X0 c o, 0, 0⟩) := rfl
  have hb : lget (X0 c o) 0 = some (some (blkOf 24 c.vs)) := rfl
  have hb1 : lget (X0 c o) 1 = some (some (blkOf 24 o.vs)) := rfl
  obtain ⟨hp1, o1, o2⟩ := out0 c o c
  simp only [s1, s2, s3, pS, fS, oS, rd_k hb, rd_a hb, rd_l hb, rd_w hb, rd_all hb, rd_k hb1, rd_a hb1, rd_l hb1, rd_w hb1, asI_i, forceB_eq, forceI_eq, eqI_eq, ltI_eq, asB_b, tupA]
  have beq : ∀ a b : Int, (a == b) = decide (a = b) := fun _ _ => rfl
  simp only [beq]
  unfold turnP
  by_cases e1 : o.k ≠ 1 ∨ c.k = 0
  · rw [if_pos e1]
    have : (bindO (cond (!decide (o.k = 1)) (some true) (some (decide (c.k = 0)))) fun c13 : Bool => some c13) = some true := by
      rcases e1 with h | h
      · simp [h, bindO]
      · by_cases h2 : o.k = 1 <;> simp [h, h2, bindO]
    have e2 : (cond (!decide (o.k = 1)) (some true) (some (decide (c.k = 0)))) = some true := by
      rcases e1 with h | h
      · simp [h]
      · by_cases h2 : o.k = 1 <;> simp [h, h2]
    simp only [e2, bindO_some, cond_true]
    exact ⟨_, fin0 _ _, rfl⟩
  · rw [if_neg e1]
    have h1 : o.k = 1 := by
      by_cases h : o.k = 1
      · exact h
      · exact absurd (.inl h) e1
    have h2 : ¬ c.k = 0 := fun h => e1 (.inr h)
    simp only [h1, h2, decide_true, decide_false, Bool.not_true, cond_false, bindO_some]
    have hD : (if o.a < c.a ∨ (o.a = c.a ∧ (c.k = 2 ∨ o.w < c.w ∨ (o.w = c.w ∧ o.l < c.l))) then upC c else c) = cond (cond (decide (o.a = c.a)) (decide (c.k = 2) || (decide (o.w < c.w) || (decide (o.w = c.w) && decide (o.l < c.l)))) (decide (o.a < c.a))) (upC c) c := by
      by_cases ea : o.a = c.a
      · have hlt : ¬ (o.a < c.a) := by omega
        by_cases ek : c.k = 2
        · rw [if_pos (.inr ⟨ea, .inl ek⟩)]; simp [ea, ek]
        · by_cases ew : o.w < c.w
          · rw [if_pos (.inr ⟨ea, .inr (.inl ew)⟩)]; simp [ea, ew]
          · by_cases ew2 : o.w = c.w
            · by_cases el : o.l < c.l
              · rw [if_pos (.inr ⟨ea, .inr (.inr ⟨ew2, el⟩)⟩)]; simp [ea, ew2, el]
              · rw [if_neg (by omega)]; simp [ea, ek, ew2, el]
            · rw [if_neg (by omega)]; simp [ea, ek, ew, ew2]
      · by_cases el : o.a < c.a
        · rw [if_pos (.inl el)]; simp [ea, el]
        · rw [if_neg (by omega)]; simp [ea, el]
    rw [hD]
    obtain ⟨q1, q2, q3⟩ := set0 c o (wr .i64 (c.a + 1))
    obtain ⟨hp2, q4, q5⟩ := q3 (upC c)
    have e : Ch.v ⟨c.k, wr .i64 (c.a + 1), c.l, c.w⟩ = (upC c).v := rfl
    rw [e] at q2
    generalize decide (o.a = c.a) = b1
    generalize decide (c.k = 2) = b2
    generalize decide (o.w < c.w) = b3
    generalize decide (o.w = c.w) = b4
    generalize decide (o.l < c.l) = b5
    generalize decide (o.a < c.a) = b6
    have yes : ∃ r : AVal × Heap × Nat × Nat, (bindP (stepM [] ⟨X0 c o, 0, 0⟩ (.st 1 (.c (.p (some ⟨false, 0, 1⟩))) (.c (.i .i64 (wr .i64 (c.a + 1)))))) fun vn_1 m_6 =>
        bindO (ldM [] m_6 false 4 (.p (some ⟨false, 0, 0⟩))) fun v54 =>
        bindP (stepM [] m_6 (.st 4 (.c (.p (some ⟨false, 2, 0⟩))) (.c v54))) fun vn_2 m_7 =>
        bindO (ldM [] m_7 false 4 (.p (some ⟨false, 2, 0⟩))) fun vr_1 =>
        finM ([] : Heap).length vr_1 m_7) = some r ∧ r.1 = (upC c).v := by
      simp only [q1, bindP_some, q2, bindO_some, q4, q5]
      exact ⟨_, fin0 _ _, rfl⟩
    have no : ∃ r : AVal × Heap × Nat × Nat, (bindO (ldM [] ⟨X0 c o, 0, 0⟩ false 4 (.p (some ⟨false, 0, 0⟩))) fun v54 =>
        bindP (stepM [] ⟨X0 c o, 0, 0⟩ (.st 4 (.c (.p (some ⟨false, 2, 0⟩))) (.c v54))) fun vn_2 m_7 =>
        bindO (ldM [] m_7 false 4 (.p (some ⟨false, 2, 0⟩))) fun vr_1 =>
        finM ([] : Heap).length vr_1 m_7) = some r ∧ r.1 = c.v := by
      simp only [rd_all hb, bindO_some, o1, bindP_some, o2]
      exact ⟨_, fin0 _ _, rfl⟩
    simp only [q1, bindP_some, bindO_some, q2, q4, q5] at yes
    simp only [rd_all hb, bindP_some, bindO_some, o1, o2] at no
    cases b1
    · cases b6
      · simp only [cond_false, bindO_some, rd_all hb, o1, bindP_some, o2]; exact no
      · simp only [cond_false, cond_true, bindO_some, q1, bindP_some, q2, q4, q5]; exact yes
    · cases b2
      · cases b3
        · cases b4
          · simp only [cond_false, cond_true, bindO_some, rd_all hb, o1, bindP_some, o2, Bool.false_or, Bool.false_and]; exact no
          · cases b5
            · simp only [cond_false, cond_true, bindO_some, rd_all hb, o1, bindP_some, o2, Bool.false_or, Bool.true_and]; exact no
            · simp only [cond_false, cond_true, bindO_some, q1, bindP_some, q2, q4, q5, Bool.false_or, Bool.true_and]; exact yes
        · simp only [cond_false, cond_true, bindO_some, q1, bindP_some, q2, q4, q5, Bool.false_or, Bool.true_or]; exact yes
      · simp only [cond_true, bindO_some, q1, bindP_some, q2, q4, q5, Bool.true_or]; exact yes
theorem same0 (c o : Ch) : ∃ h lw lp, callX Fa [] 96 [c.v, o.v] [] = some (c.v, h, lw, lp) := by
  suffices h : ∃ r : AVal × Heap × Nat × Nat, g96 (meansX Fa []) [] c.v o.v ⟨[], 0, 0⟩ = some r ∧ r.1 = c.v by
    obtain ⟨⟨v, hp, lw, lp⟩, h1, h2⟩ := h
    cases h2
    exact ⟨_, _, _, g96_ok (meansX_ok _ _) rfl h1⟩
  unfold g96
  have s1 : stepM [] ⟨[], 0, 0⟩ (.bx 24 4 (.c c.v)) = some (.p (some ⟨false, 0, 0⟩), ⟨[some (blkOf 24 c.vs)], 0, 0⟩) := rfl
  have s2 : stepM [] ⟨[some (blkOf 24 c.vs)], 0, 0⟩ (.bx 24 4 (.c o.v)) = some (.p (some ⟨false, 1, 0⟩), ⟨[some (blkOf 24 c.vs), some (blkOf 24 o.vs)], 0, 0⟩) := rfl
  have s3 : stepM [] ⟨[some (blkOf 24 c.vs), some (blkOf 24 o.vs)], 0, 0⟩ (.al 24 zC) = some (.p (some ⟨false, 2, 0⟩), ⟨X0 c o, 0, 0⟩) := rfl
  have hb : lget (X0 c o) 0 = some (some (blkOf 24 c.vs)) := rfl
  obtain ⟨hp1, o1, o2⟩ := out0 c o c
  simp only [s1, s2, s3, bindP_some, bindO_some, rd_all hb, o1, o2, tupA]
  exact ⟨_, fin0 _ _, rfl⟩
theorem hide0 (c o : Ch) : ∃ h lw lp, callX Fa [] 98 [c.v, o.v] [] = some ((hideP c o).v, h, lw, lp) := by
  suffices h : ∃ r : AVal × Heap × Nat × Nat, g98 (meansX Fa []) [] c.v o.v ⟨[], 0, 0⟩ = some r ∧ r.1 = (hideP c o).v by
    obtain ⟨⟨v, hp, lw, lp⟩, h1, h2⟩ := h
    cases h2
    exact ⟨_, _, _, g98_ok (meansX_ok _ _) rfl h1⟩
  unfold g98
  have s1 : stepM [] ⟨[], 0, 0⟩ (.bx 24 4 (.c c.v)) = some (.p (some ⟨false, 0, 0⟩), ⟨[some (blkOf 24 c.vs)], 0, 0⟩) := rfl
  have s2 : stepM [] ⟨[some (blkOf 24 c.vs)], 0, 0⟩ (.bx 24 4 (.c o.v)) = some (.p (some ⟨false, 1, 0⟩), ⟨[some (blkOf 24 c.vs), some (blkOf 24 o.vs)], 0, 0⟩) := rfl
  have s3 : stepM [] ⟨[some (blkOf 24 c.vs), some (blkOf 24 o.vs)], 0, 0⟩ (.al 24 zC) = some (.p (some ⟨false, 2, 0⟩), ⟨X0 c o, 0, 0⟩) := rfl
  have hb : lget (X0 c o) 0 = some (some (blkOf 24 c.vs)) := rfl
  have hb1 : lget (X0 c o) 1 = some (some (blkOf 24 o.vs)) := rfl
  obtain ⟨hp1, o1, o2⟩ := out0 c o c
  simp only [s1, s2, s3, bindP_some, fa, bindO_some, Nat.zero_add, rd_a hb, rd_a hb1, asI_i, forceB_eq, forceI_eq, ltI_eq, tupA]
  unfold hideP
  by_cases e : o.a ≤ c.a
  · have e2 : (!decide (c.a < o.a)) = true := by simp; omega
    rw [if_pos e]
    obtain ⟨q1, q2, q3⟩ := set0 c o (wr .i64 (c.a + 1))
    obtain ⟨hp2, q4, q5⟩ := q3 (upC c)
    simp only [e2, cond_true, q1, bindP_some, bindO_some, q2]
    have e : Ch.v ⟨c.k, wr .i64 (c.a + 1), c.l, c.w⟩ = (upC c).v := rfl
    simp only [e, q4, bindP_some, q5, bindO_some]
    exact ⟨_, fin0 _ _, rfl⟩
  · have e2 : (!decide (c.a < o.a)) = false := by simp; omega
    rw [if_neg e]
    simp only [e2, cond_false, bindO_some, rd_all hb, o1, bindP_some, o2]
    exact ⟨_, fin0 _ _, rfl⟩
end Go.Proofs.Ythcadkmfbgonjaa.T

/- The program's turning, with its table of functions. -/
open Go.Vm
set_option linter.unusedVariables false
namespace Go.Proofs.Ythcadkmfbgonjaa.T
open Go

abbrev I3 (a b c : Int) : List AVal := [.i .i64 a, .i .i64 b, .i .i64 c]
abbrev X1 (c o : Ch) (a b d : Int) : Heap := [some (blkOf 24 c.vs), some (blkOf 24 o.vs), some (blkOf 24 zC), some (blkOf 3 (I3 a b d))]
abbrev Y1 (c o : Ch) (a b d x : Int) : Heap := [some { blkOf 24 c.vs with c := (blkOf 24 c.vs).c.set 1 (.i .i64 x) }, some (blkOf 24 o.vs), some (blkOf 24 zC), some (blkOf 3 (I3 a b d))]
theorem sl3 (c o : Ch) (a b d : Int) : stepM [] ⟨X0 c o, 3, 3⟩ (.bsl 3 1 [(AVal.i IntKind.i64 0)] 3 [((0, 1), .c (.i .i64 a)), ((1, 1), .c (.i .i64 b)), ((2, 1), .c (.i .i64 d))]) = some (.sl ⟨false, 3, 0⟩ 3 (.known 3), ⟨X1 c o a b d, 3, 3⟩) := by
  simp [stepM, stepK, st_bsl, rep, fillA, opd, AVal.cells, splice, newB, St.mm]
theorem row3 (c o : Ch) (a b d : Int) : IsRow [] (X1 c o a b d) (.sl ⟨false, 3, 0⟩ 3 (.known 3)) [a, b, d] := by
  refine .inr ⟨⟨false, 3, 0⟩, .known 3, blkOf 3 (I3 a b d), rfl, rfl, Nat.le_refl 3, fun j hj => ?_⟩
  rw [get_blk]
  match j, hj with
  | 0, _ => rfl
  | 1, _ => rfl
  | 2, _ => rfl
theorem outG {hp : Heap} (hb : Holds hp 2 zC) (r : Ch) : ∃ hp', stepM [] ⟨hp, 0, 0⟩ (.st 4 (.c (.p (some ⟨false, 2, 0⟩))) (.c r.v)) = some (und, ⟨hp', 0, 0⟩) ∧ ldM [] ⟨hp', 0, 0⟩ false 4 (.p (some ⟨false, 2, 0⟩)) = some r.v := by
  obtain ⟨hp', h1, h2, -⟩ := hb.st (ro := []) (h := []) (v := r.v) (vs' := r.vs) (n := 4) rfl rfl rfl rfl (by simp) ⟨by simp, by simp⟩
  exact ⟨hp', h1, h2.all rfl⟩
theorem set1a (c o : Ch) (a b d x : Int) : stepM [] ⟨X1 c o a b d, 0, 0⟩ (.st 1 (.c (.p (some ⟨false, 0, 1⟩))) (.c (.i .i64 x))) = some (und, ⟨Y1 c o a b d x, 0, 0⟩) := by
  have hb : lget (X1 c o a b d) 0 = some (some (blkOf 24 c.vs)) := rfl
  rw [st_heap hb (show 1 < 4 by decide) rfl rfl rfl]
  rfl
theorem set1b (c o : Ch) (a b d x : Int) : ldM [] ⟨Y1 c o a b d x, 0, 0⟩ false 4 (.p (some ⟨false, 0, 0⟩)) = some (Ch.v ⟨c.k, x, c.l, c.w⟩) := by
  have hb : rdB [] (Y1 c o a b d x) ⟨false, 0, 0⟩ = some { blkOf 24 c.vs with c := (blkOf 24 c.vs).c.set 1 (.i .i64 x) } := rfl
  simp only [ldM, rd, hb, cond_false]
  show (cond (Nat.ble (0 + 4) 4) (some (AVal.agg (((blkOf 24 c.vs).c.set 1 (.i .i64 x)).row 0 4))) none) = _
  simp only [Tr.row, get_set, get_blk, Ch.v, Ch.vs]
  rfl
theorem rdA_k {ro : List ABlk} {x : Heap} {c : Ch} {b : Nat} (h : lget x b = some (some (blkOf 24 c.vs))) : ldA ro x true 1 (.p (some ⟨false, b, 0⟩)) = some (.i .i64 c.k) := by rw [lda_heap h (show 0 < 4 by decide)]; rfl
theorem rdA_l {ro : List ABlk} {x : Heap} {c : Ch} {b : Nat} (h : lget x b = some (some (blkOf 24 c.vs))) : ldA ro x true 1 (.p (some ⟨false, b, 2⟩)) = some (.i .u8 c.l) := by rw [lda_heap h (show 2 < 4 by decide)]; rfl
theorem rdA_w {ro : List ABlk} {x : Heap} {c : Ch} {b : Nat} (h : lget x b = some (some (blkOf 24 c.vs))) : ldA ro x true 1 (.p (some ⟨false, b, 3⟩)) = some (.i .i64 c.w) := by rw [lda_heap h (show 3 < 4 by decide)]; rfl
theorem rdA_all {ro : List ABlk} {x : Heap} {c : Ch} {b : Nat} (h : lget x b = some (some (blkOf 24 c.vs))) : ldA ro x false 4 (.p (some ⟨false, b, 0⟩)) = some c.v := by
  have : Holds x b c.vs := ⟨blkOf 24 c.vs, h, rfl, fun j _ => get_blk 24 c.vs j⟩
  exact this.allA rfl

theorem or_cmp (c o : Ch) : (orI (cmpI o.a c.a) (cmpI o.w c.w) (cmpI o.l c.l) < 0) ↔ (o.a < c.a ∨ (o.a = c.a ∧ (o.w < c.w ∨ (o.w = c.w ∧ o.l < c.l)))) := by
  unfold orI cmpI
  by_cases a1 : o.a < c.a
  · simp [a1]
  · by_cases a2 : c.a < o.a
    · simp [a1, a2]; omega
    · have : o.a = c.a := by omega
      by_cases w1 : o.w < c.w
      · simp [this, w1]
      · by_cases w2 : c.w < o.w
        · simp [this, w1, w2]; omega
        · have hw : o.w = c.w := by omega
          by_cases l1 : o.l < c.l
          · simp [this, hw, l1]
          · by_cases l2 : c.l < o.l
            · simp [this, hw, l1, l2]
            · simp [this, hw, l1, l2]

theorem put0 (c o : Ch) : ∃ h lw lp, callX Fa [] 97 [c.v, o.v] [] = some ((putP c o).v, h, lw, lp) := by
  suffices h : ∃ r : AVal × Heap × Nat × Nat, g97 (meansX Fa []) [] c.v o.v ⟨[], 0, 0⟩ = some r ∧ r.1 = (putP c o).v by
    obtain ⟨⟨v, hp, lw, lp⟩, h1, h2⟩ := h
    cases h2
    exact ⟨_, _, _, g97_ok (meansX_ok _ _) rfl h1⟩
  unfold g97
  have s1 : stepM [] ⟨[], 0, 0⟩ (.bx 24 4 (.c c.v)) = some (.p (some ⟨false, 0, 0⟩), ⟨[some (blkOf 24 c.vs)], 0, 0⟩) := rfl
  have s2 : stepM [] ⟨[some (blkOf 24 c.vs)], 0, 0⟩ (.bx 24 4 (.c o.v)) = some (.p (some ⟨false, 1, 0⟩), ⟨[some (blkOf 24 c.vs), some (blkOf 24 o.vs)], 0, 0⟩) := rfl
  have s3 : stepM [] ⟨[some (blkOf 24 c.vs), some (blkOf 24 o.vs)], 0, 0⟩ (.al 24 zC) = some (.p (some ⟨false, 2, 0⟩), ⟨X0 c o, 0, 0⟩) := rfl
  have hb : lget (X0 c o) 0 = some (some (blkOf 24 c.vs)) := rfl
  have hb1 : lget (X0 c o) 1 = some (some (blkOf 24 o.vs)) := rfl
  have k100 : ∀ a b, callM (callX Fa []) ⟨X0 c o, 3, 3⟩ 100 [.i .i64 a, .i .i64 b] = some (.i .i64 (cmpI a b), ⟨X0 c o, 3, 3⟩) := fun a b => cp (callA1 rfl) (Nat.le_refl 3) (Nat.le_refl 3)
  have k101 : ∀ a b, callM (callX Fa []) ⟨X0 c o, 3, 3⟩ 101 [.i .u8 a, .i .u8 b] = some (.i .i64 (cmpI a b), ⟨X0 c o, 3, 3⟩) := fun a b => cp (callA1 rfl) (Nat.le_refl 3) (Nat.le_refl 3)
  have k99 : ∀ a b d, callM (callX Fa []) ⟨X1 c o a b d, 3, 3⟩ 99 [.sl ⟨false, 3, 0⟩ 3 (.known 3)] = some (.i .i64 (orI a b d), ⟨X1 c o a b d, 3, 3⟩) := fun a b d => cp (or0 (row3 c o a b d) rfl) (by simp) (by simp)
  have hbase : Mm.base ⟨X0 c o, 0, 0⟩ = ⟨X0 c o, 3, 3⟩ := rfl
  have hch : (!Nat.blt 3 (X0 c o).length) = true := rfl
  have hj : ∀ a b d, Mm.join ⟨X0 c o, 0, 0⟩ ⟨X1 c o a b d, 3, 3⟩ = ⟨X1 c o a b d, 0, 0⟩ := fun _ _ _ => rfl
  have cht : ∀ {β : Type} (f : Option β), chk true f = f := fun _ => rfl
  rw [bindP_of s1, bindP_of s2, bindP_of s3, hbase, oS]
  simp only [fS, oS, rd_a hb, rd_a hb1, asI_i, meansX_call]
  rw [bindP_of (k100 _ _)]
  simp only [asI_i, hch]
  rw [cht]
  simp only [rdA_w hb, rdA_w hb1, oS, asI_i]
  rw [bindP_of (k100 _ _)]
  simp only [asI_i, hch]
  rw [cht]
  simp only [rdA_l hb, rdA_l hb1, oS, asI_i]
  rw [bindP_of (k101 _ _)]
  simp only [asI_i]
  rw [bindP_of (sl3 c o _ _ _), bindP_of (k99 _ _ _)]
  simp only [asI_i, forceB_eq, ltI_eq, hj, oS, tupA]
  have hx : lget (X1 c o (cmpI o.a c.a) (cmpI o.w c.w) (cmpI o.l c.l)) 0 = some (some (blkOf 24 c.vs)) := rfl
  unfold putP
  by_cases e : o.a < c.a ∨ (o.a = c.a ∧ (o.w < c.w ∨ (o.w = c.w ∧ o.l < c.l)))
  · rw [if_pos e, dT ((or_cmp c o).2 e)]
    have hs := set1a c o (cmpI o.a c.a) (cmpI o.w c.w) (cmpI o.l c.l) (wr .i64 (c.a + 1))
    have hr := set1b c o (cmpI o.a c.a) (cmpI o.w c.w) (cmpI o.l c.l) (wr .i64 (c.a + 1))
    obtain ⟨hp', q1, q2⟩ := outG (hp := Y1 c o (cmpI o.a c.a) (cmpI o.w c.w) (cmpI o.l c.l) (wr .i64 (c.a + 1))) ⟨blkOf 24 zC, rfl, rfl, fun j _ => get_blk 24 zC j⟩ (upC c)
    have ee : Ch.v ⟨c.k, wr .i64 (c.a + 1), c.l, c.w⟩ = (upC c).v := rfl
    rw [ee] at hr
    simp only [cT, rd_a hx, oS, asI_i, forceI_eq]
    simp only [bindP_of hs, oS]
    rw [bindO_of hr, bindP_of q1, bindO_of q2]
    exact ⟨_, fin0 _ _, rfl⟩
  · rw [if_neg e, dF (fun h => e ((or_cmp c o).1 h))]
    obtain ⟨hp', q1, q2⟩ := outG (hp := X1 c o (cmpI o.a c.a) (cmpI o.w c.w) (cmpI o.l c.l)) ⟨blkOf 24 zC, rfl, rfl, fun j _ => get_blk 24 zC j⟩ c
    simp only [cF, oS]
    rw [bindO_of (rd_all hx), bindP_of q1, bindO_of q2]
    exact ⟨_, fin0 _ _, rfl⟩

def asCh : AVal → Option Ch
  | .agg [.i .i64 k, .i .i64 a, .i .u8 l, .i .i64 w] => some ⟨k, a, l, w⟩
  | _ => none
theorem asCh_v {v : AVal} {c : Ch} (h : asCh v = some c) : v = c.v := by
  unfold asCh at h
  split at h
  · cases h; rfl
  · cases h
theorem v_asCh (c : Ch) : asCh c.v = some c := rfl
def two (f : Ch → Ch → Ch) (args : List AVal) : Option AVal :=
  match args with
  | [v, w] => match asCh v, asCh w with
    | some c, some o => some (f c o).v
    | _, _ => none
  | _ => none
def fitK (f : Ch → Int → Bool) (args : List AVal) : Option AVal :=
  match args with
  | [v, .i .i64 n] => (asCh v).map fun c => .b (f c n)
  | _ => none
theorem two_inv {f : Ch → Ch → Ch} {args : List AVal} {v : AVal} (h : two f args = some v) : ∃ c o : Ch, args = [c.v, o.v] ∧ v = (f c o).v := by
  unfold two at h
  split at h
  · split at h
    · rename_i c o h1 h2
      cases h
      exact ⟨c, o, by rw [asCh_v h1, asCh_v h2], rfl⟩
    · cases h
  · cases h
theorem fitK_inv {f : Ch → Int → Bool} {args : List AVal} {v : AVal} (h : fitK f args = some v) : ∃ (c : Ch) (n : Int), args = [c.v, .i .i64 n] ∧ v = .b (f c n) := by
  unfold fitK at h
  split at h
  · rw [Option.map_eq_some_iff] at h
    obtain ⟨c, h1, e⟩ := h
    exact ⟨c, _, by rw [asCh_v h1], e.symm⟩
  · cases h
def K2 (f : Nat) (args : List AVal) : Option AVal :=
  cond (Nat.beq f 59) (fitK fitR args) <| cond (Nat.beq f 62) (fitK fitP args) <| cond (Nat.beq f 67) (two turnP args) <|
  cond (Nat.beq f 96) (two (fun c _ => c) args) <| cond (Nat.beq f 97) (two putP args) <| cond (Nat.beq f 98) (two hideP args) none
theorem plain_v (c : Ch) : plainB c.v = true := rfl
theorem K2_ok : ∀ f a v, K2 f a = some v → (∀ x ∈ a, plainB x = true) ∧ plainB v = true ∧ ∃ h' lw lp, callX Fa [] f a [] = some (v, h', lw, lp) := by
  intro f a v hK
  unfold K2 at hK
  have t2 : ∀ {g : Ch → Ch → Ch} {k : Nat}, two g a = some v → (∀ c o : Ch, ∃ h lw lp, callX Fa [] k [c.v, o.v] [] = some ((g c o).v, h, lw, lp)) → (∀ x ∈ a, plainB x = true) ∧ plainB v = true ∧ ∃ h' lw lp, callX Fa [] k a [] = some (v, h', lw, lp) := fun h h2 => by
    obtain ⟨c, o, rfl, rfl⟩ := two_inv h
    exact ⟨by simp [plain_v], plain_v _, h2 c o⟩
  have t1 : ∀ {g : Ch → Int → Bool} {k : Nat}, fitK g a = some v → (∀ (c : Ch) (n : Int), ∃ h lw lp, callX Fa [] k [c.v, .i .i64 n] [] = some (.b (g c n), h, lw, lp)) → (∀ x ∈ a, plainB x = true) ∧ plainB v = true ∧ ∃ h' lw lp, callX Fa [] k a [] = some (v, h', lw, lp) := fun h h2 => by
    obtain ⟨c, n, rfl, rfl⟩ := fitK_inv h
    refine ⟨fun x hx => ?_, rfl, h2 c n⟩
    simp only [List.mem_cons, List.not_mem_nil, or_false] at hx
    rcases hx with rfl | rfl
    · exact plain_v c
    · rfl
  cases e1 : Nat.beq f 59
  · cases e2 : Nat.beq f 62
    · cases e3 : Nat.beq f 67
      · cases e4 : Nat.beq f 96
        · cases e5 : Nat.beq f 97
          · cases e6 : Nat.beq f 98
            · simp only [e1, e2, e3, e4, e5, e6, cond_false] at hK; cases hK
            · simp only [e1, e2, e3, e4, e5, e6, cond_false, cond_true] at hK
              obtain rfl := beqE e6
              exact t2 hK hide0
          · simp only [e1, e2, e3, e4, e5, cond_false, cond_true] at hK
            obtain rfl := beqE e5
            exact t2 hK put0
        · simp only [e1, e2, e3, e4, cond_false, cond_true] at hK
          obtain rfl := beqE e4
          exact t2 hK same0
      · simp only [e1, e2, e3, cond_false, cond_true] at hK
        obtain rfl := beqE e3
        exact t2 hK turnR0
    · simp only [e1, e2, cond_false, cond_true] at hK
      obtain rfl := beqE e2
      exact t1 hK fits0
  · simp only [e1, cond_true] at hK
    obtain rfl := beqE e1
    exact t1 hK fitsR0
abbrev Ob : Caller := orC (knownS K1) (knownS K2)
theorem O2_ok {E : Env} (hE : E.Ok) (hm : E.P.follows .mixedOrders = true) (hF : FOk E.P F) : CallOk E Ob :=
  or_ok (O1_ok hE hm hF) (knownP_ok (callX_sound (E := E.bare) (Env.bare_ok hE) hm (F := Fa) hF (O1_ok (Env.bare_ok hE) hm hF)) K2_ok)
end Go.Proofs.Ythcadkmfbgonjaa.T

/- The program's turning is the reference's; all that is known beforehand. -/
open Go.Vm
set_option linter.unusedVariables false
namespace Go.Proofs.Ythcadkmfbgonjaa.T
open Go Go.RowKit Go.Deep Go.WideShapes Go.ChangeShapes

abbrev Fb : Tab := ⟨F, Ob⟩
def kindOk (c : Ch) : Prop := c.k = 0 ∨ c.k = 1 ∨ c.k = 2
instance (c : Ch) : Decidable (kindOk c) := inferInstanceAs (Decidable (_ ∨ _ ∨ _))
theorem callB {ro : List ABlk} {hp : Heap} {f : Nat} {a : List AVal} {v : AVal} (h : K1 f a = some v) : callX Fb ro f a hp = some (v, hp, hp.length, hp.length) := callX_ov (by show orC (knownS K1) (knownS K2) f a hp = _; unfold orC; rw [knownA h hp])
theorem callB2 {ro : List ABlk} {hp : Heap} {f : Nat} {a : List AVal} {v : AVal} (h1 : K1 f a = none) (h : K2 f a = some v) : callX Fb ro f a hp = some (v, hp, hp.length, hp.length) := callX_ov (by
  have : knownS K1 f a hp = none := by unfold knownS; rw [h1]
  show orC (knownS K1) (knownS K2) f a hp = _; unfold orC; rw [this]; exact knownA h hp)
abbrev tabV : AVal := .agg [.fn 96 [] [], .fn 96 [] [], .fn 96 [] [], .fn 96 [] [], .fn 97 [] [], .fn 96 [] [], .fn 96 [] [], .fn 98 [] [], .fn 96 [] []]

theorem turn0 (c o : Ch) (hc : kindOk c) (ho : kindOk o) : ∃ h lw lp, callX Fb [] 66 [c.v, o.v] [] = some ((turnP c o).v, h, lw, lp) := by
  suffices h : ∃ r : AVal × Heap × Nat × Nat, g66 (meansX Fb []) [] c.v o.v ⟨[], 0, 0⟩ = some r ∧ r.1 = (turnP c o).v by
    obtain ⟨⟨v, hp, lw, lp⟩, h1, h2⟩ := h
    cases h2
    exact ⟨_, _, _, g66_ok (meansX_ok _ _) rfl h1⟩
  unfold g66
  have s1 : stepM [] ⟨[], 0, 0⟩ (.bx 24 4 (.c c.v)) = some (.p (some ⟨false, 0, 0⟩), ⟨[some (blkOf 24 c.vs)], 0, 0⟩) := rfl
  have s2 : stepM [] ⟨[some (blkOf 24 c.vs)], 0, 0⟩ (.bx 24 4 (.c o.v)) = some (.p (some ⟨false, 1, 0⟩), ⟨[some (blkOf 24 c.vs), some (blkOf 24 o.vs)], 0, 0⟩) := rfl
  have s3 : stepM [] ⟨[some (blkOf 24 c.vs), some (blkOf 24 o.vs)], 0, 0⟩ (.al 24 zC) = some (.p (some ⟨false, 2, 0⟩), ⟨X0 c o, 0, 0⟩) := rfl
  have hb : lget (X0 c o) 0 = some (some (blkOf 24 c.vs)) := rfl
  have hb1 : lget (X0 c o) 1 = some (some (blkOf 24 o.vs)) := rfl
  have hbase : Mm.base ⟨X0 c o, 0, 0⟩ = ⟨X0 c o, 3, 3⟩ := rfl
  have hch : (!Nat.blt 3 (X0 c o).length) = true := rfl
  have cht : ∀ {β : Type} (f : Option β), chk true f = f := fun _ => rfl
  have k92 : callM (callX Fb []) ⟨X0 c o, 3, 3⟩ 92 [] = some (tabV, ⟨X0 c o, 3, 3⟩) := cp (callB rfl) (Nat.le_refl 3) (Nat.le_refl 3)
  have k96 : callvM (callX Fb []) ⟨X0 c o, 3, 3⟩ (.fn 96 [] []) [c.v, o.v] = some (c.v, ⟨X0 c o, 3, 3⟩) := cp (ro := []) (h := X0 c o) (f := 96) (a := [c.v, o.v]) (callB2 rfl rfl) (Nat.le_refl 3) (Nat.le_refl 3)
  have k97 : callvM (callX Fb []) ⟨X0 c o, 3, 3⟩ (.fn 97 [] []) [c.v, o.v] = some ((putP c o).v, ⟨X0 c o, 3, 3⟩) := cp (ro := []) (h := X0 c o) (f := 97) (a := [c.v, o.v]) (callB2 rfl rfl) (Nat.le_refl 3) (Nat.le_refl 3)
  have k98 : callvM (callX Fb []) ⟨X0 c o, 3, 3⟩ (.fn 98 [] []) [c.v, o.v] = some ((hideP c o).v, ⟨X0 c o, 3, 3⟩) := cp (ro := []) (h := X0 c o) (f := 98) (a := [c.v, o.v]) (callB2 rfl rfl) (Nat.le_refl 3) (Nat.le_refl 3)
  have out : ∀ r : Ch, ∃ hp', stepM [] ⟨X0 c o, 3, 3⟩ (.st 4 (.c (.p (some ⟨false, 2, 0⟩))) (.c r.v)) = some (und, ⟨hp', 2, 3⟩) ∧ ldM [] ⟨hp', 0, 0⟩ false 4 (.p (some ⟨false, 2, 0⟩)) = some r.v := fun r => ⟨_, rfl, rfl⟩
  have hj : ∀ hp : Heap, Mm.join ⟨X0 c o, 0, 0⟩ ⟨hp, 2, 3⟩ = ⟨hp, 0, 0⟩ := fun _ => rfl
  -- the table's function, and what it answers
  have key : ∀ (f : Nat) (r : Ch), (∃ u, evP .e (.ixV 3 3 false (.c tabV) (.c (.i .i64 c.k))) = some u ∧ evP .e (.ixV 3 1 true (.c u) (.c (.i .i64 o.k))) = some (.fn f [] [])) → callvM (callX Fb []) ⟨X0 c o, 3, 3⟩ (.fn f [] []) [c.v, o.v] = some (r.v, ⟨X0 c o, 3, 3⟩) → turnP c o = r →
      ∃ r : AVal × Heap × Nat × Nat, g66 (meansX Fb []) [] c.v o.v ⟨[], 0, 0⟩ = some r ∧ r.1 = (turnP c o).v := by
    intro f r ⟨u, hu, hv⟩ hcall hr
    obtain ⟨hp', q1, q2⟩ := out r
    unfold g66
    rw [bindP_of s1, bindP_of s2, bindP_of s3, hbase, oS]
    simp only [meansX_call]
    rw [bindP_of k92]
    simp only [hch]
    rw [cht]
    simp only [fS, oS, rdA_k hb, rdA_k hb1, rdA_all hb, rdA_all hb1, asI_i]
    rw [bindO_of hu, bindO_of hv, bindP_of hcall, bindP_of q1, hj, bindO_of q2]
    simp only [tupA]
    exact ⟨_, fin0 _ _, by rw [hr]⟩
  unfold g66 at key
  rcases hc with hc | hc | hc
  · have ht : turnP c o = c := by unfold turnP; rw [if_pos (.inr hc)]
    refine key 96 c ?_ k96 ht
    rw [hc]
    rcases ho with ho | ho | ho <;> rw [ho] <;> exact ⟨_, rfl, rfl⟩
  · rcases ho with ho | ho | ho
    · exact key 96 c (by rw [hc, ho]; exact ⟨_, rfl, rfl⟩) k96 (by unfold turnP; rw [if_pos (.inl (by omega))])
    · refine key 97 (putP c o) (by rw [hc, ho]; exact ⟨_, rfl, rfl⟩) k97 ?_
      unfold turnP putP
      rw [if_neg (by omega)]
      by_cases h : o.a < c.a ∨ (o.a = c.a ∧ (o.w < c.w ∨ (o.w = c.w ∧ o.l < c.l)))
      · rw [if_pos h, if_pos (by omega)]
      · rw [if_neg h, if_neg (by omega)]
    · exact key 96 c (by rw [hc, ho]; exact ⟨_, rfl, rfl⟩) k96 (by unfold turnP; rw [if_pos (.inl (by omega))])
  · rcases ho with ho | ho | ho
    · exact key 96 c (by rw [hc, ho]; exact ⟨_, rfl, rfl⟩) k96 (by unfold turnP; rw [if_pos (.inl (by omega))])
    · refine key 98 (hideP c o) (by rw [hc, ho]; exact ⟨_, rfl, rfl⟩) k98 ?_
      unfold turnP hideP
      rw [if_neg (by omega)]
      by_cases h : o.a ≤ c.a
      · rw [if_pos h, if_pos (by omega)]
      · rw [if_neg h, if_neg (by omega)]
    · exact key 96 c (by rw [hc, ho]; exact ⟨_, rfl, rfl⟩) k96 (by unfold turnP; rw [if_pos (.inl (by omega))])

def turnK (args : List AVal) : Option AVal :=
  match args with
  | [v, w] => match asCh v, asCh w with
    | some c, some o => if kindOk c ∧ kindOk o then some (turnP c o).v else none
    | _, _ => none
  | _ => none
def K3 (f : Nat) (args : List AVal) : Option AVal := cond (Nat.beq f 66) (turnK args) none
theorem K3_ok : ∀ f a v, K3 f a = some v → (∀ x ∈ a, plainB x = true) ∧ plainB v = true ∧ ∃ h' lw lp, callX Fb [] f a [] = some (v, h', lw, lp) := by
  intro f a v hK
  unfold K3 at hK
  cases e1 : Nat.beq f 66
  · rw [e1] at hK; cases hK
  · rw [e1] at hK
    obtain rfl := beqE e1
    simp only [cond_true, turnK] at hK
    split at hK
    · split at hK
      · rename_i c o h1 h2
        split at hK
        · rename_i hk
          cases hK
          rw [asCh_v h1, asCh_v h2]
          exact ⟨by simp [plain_v], plain_v _, turn0 c o hk.1 hk.2⟩
        · cases hK
      · cases hK
    · cases hK
abbrev Oc : Caller := orC (known0 17 (.b true)) (orC Ob (knownS K3))
abbrev G1 : Tab := ⟨F, Oc⟩
/-- the call of the model: true, and below nothing has turned -/
theorem call_of1 {W : World} {ro : List ABlk} {rl : Rl} (hE : (Env.mk Try.prog W.heap.size W ro rl).Ok) {K : Nat} {vs : List AVal} {args : Array Value}
    (hv : LR rl [] vs args) {h' : Heap} {lw lp : Nat} (hc : callX G1 ro K vs [] = some (.b true, h', lw, lp)) : Calls Try.prog K args W fun e W' => e = .returned (.bool true) ∧ Below W.heap.size W W' := by
  have hm : (Env.mk Try.prog W.heap.size W ro rl).P.follows .mixedOrders = true := Try.checked.mixed
  have hO : CallOk (Env.mk Try.prog W.heap.size W ro rl) Oc := or_ok (known0_of hE hm fok alive0 rfl) (or_ok (O2_ok hE hm fok) (knownP_ok (callX_sound (Env.bare_ok hE) hm (F := Fb) fok (O2_ok (Env.bare_ok hE) hm fok)) K3_ok))
  obtain ⟨-, h2⟩ := callX_sound hE hm (F := G1) fok hO K vs [] _ _ _ _ hc
  refine Calls.mono (h2 [] W args ⟨Below.refl _ _, rfl, by simp, fun i b r K hl => by simp [Live] at hl, fun i j b b' r K K' hl => by simp [Live] at hl⟩ hv) fun e w' hq => ?_
  obtain ⟨v', rfl, m', hvr, T⟩ := hq
  exact ⟨by rw [hvr.inv_b], T.hr.below⟩

section
variable {ro : List ABlk} {h : Heap}
theorem Oc_none {f : Nat} {a : List AVal} (h0 : known0 17 (.b true) f a h = none) (h1 : K1 f a = none) (h2 : K2 f a = none) (h3 : K3 f a = none) : Oc f a h = none := by
  show orC _ (orC (orC (knownS K1) (knownS K2)) (knownS K3)) f a h = _
  simp only [h0, orC, knownS, h1, h2, h3]
theorem gAlive : callX G1 ro 17 [] h = some (.b true, h, h.length, h.length) := callX_ov rfl
theorem g1K {f : Nat} {a : List AVal} {v : AVal} (h0 : known0 17 (.b true) f a h = none) (h1 : K1 f a = some v) : callX G1 ro f a h = some (v, h, h.length, h.length) := callX_ov (by
  show orC _ (orC (orC (knownS K1) (knownS K2)) (knownS K3)) f a h = _
  unfold orC; rw [h0]; simp only [orC, knownA h1 h])
theorem g2K {f : Nat} {a : List AVal} {v : AVal} (h0 : known0 17 (.b true) f a h = none) (h1 : K1 f a = none) (h2 : K2 f a = some v) : callX G1 ro f a h = some (v, h, h.length, h.length) := callX_ov (by
  show orC _ (orC (orC (knownS K1) (knownS K2)) (knownS K3)) f a h = _
  unfold orC; rw [h0]; simp only [orC, knownS, h1, h2])
theorem g3K {f : Nat} {a : List AVal} {v : AVal} (h0 : known0 17 (.b true) f a h = none) (h1 : K1 f a = none) (h2 : K2 f a = none) (h3 : K3 f a = some v) : callX G1 ro f a h = some (v, h, h.length, h.length) := callX_ov (by
  show orC _ (orC (orC (knownS K1) (knownS K2)) (knownS K3)) f a h = _
  unfold orC; rw [h0]; simp only [orC, knownS, h1, h2, h3])
theorem k76 (x : Int) : callX G1 ro 76 [.i .u8 x] h = some (.b (decide (97 ≤ x ∧ x ≤ 122)), h, h.length, h.length) := g1K rfl rfl
theorem k77 (a x b : Int) : callX G1 ro 77 [.i .i64 a, .i .i64 x, .i .i64 b] h = some (.b (decide (a ≤ x ∧ x ≤ b)), h, h.length, h.length) := g1K rfl rfl
theorem k62 (c : Ch) (n : Int) : callX G1 ro 62 [c.v, .i .i64 n] h = some (.b (fitP c n), h, h.length, h.length) := g2K rfl rfl rfl
theorem k66 {c o : Ch} (hc : kindOk c) (ho : kindOk o) : callX G1 ro 66 [c.v, o.v] h = some ((turnP c o).v, h, h.length, h.length) := g3K rfl rfl rfl (by
  show turnK [c.v, o.v] = _
  simp only [turnK, v_asCh, hc, ho, and_self, if_true])
end
end Go.Proofs.Ythcadkmfbgonjaa.T

/- Lists of changes: what they hold, whether all of them fit. -/
open Go.Vm
set_option linter.unusedVariables false
namespace Go.Proofs.Ythcadkmfbgonjaa.T
open Go

section
variable {ro : List ABlk} {h hp : Heap} {v : AVal} {es : Nat} {X : List (List AVal)}
theorem IsL.ext (x : Heap) (a : IsL ro h v es X) : IsL ro (h ++ x) v es X := by
  obtain ⟨h0, a | a | ⟨q, cap, blk, e, hb, h1, h2⟩⟩ := a
  · exact ⟨h0, .inl a⟩
  · exact ⟨h0, .inr (.inl a)⟩
  · exact ⟨h0, .inr (.inr ⟨q, cap, blk, e, rdB_ext x hb, h1, h2⟩)⟩
theorem IsL.by (a : IsL ro h v es X) (k : Keep h hp) : IsL ro hp v es X := by
  rw [take_eq k.1 k.2]; exact a.ext _
theorem IsL.bel (a : IsL ro h v es X) : v.bel h.length = true := by
  obtain ⟨h0, ⟨rfl, rfl⟩ | ⟨rfl, rfl⟩ | ⟨q, cap, blk, rfl, hb, h1, h2⟩⟩ := a
  · rfl
  · rfl
  · simpa [AVal.bel] using rdB_lt hb
theorem len_L (a : IsL ro h v es X) : evP .e (.len false (.c v)) = some (.i .i64 X.length) := by
  obtain ⟨h0, ⟨rfl, rfl⟩ | ⟨rfl, rfl⟩ | ⟨q, cap, blk, rfl, -⟩⟩ := a
  · rfl
  · rfl
  · simp [evP, ev_len, opd, mkI_eq]
theorem at_L (a : IsL ro h v es X) {i : Nat} (hi : i < X.length) : ∃ q : Vm.Loc, evP .e (.ixS es (.c v) (.c (.i .i64 (i : Int)))) = some (.p (some q)) ∧ ∀ {hp : Heap}, Keep h hp →
    (∀ {lw lp : Nat}, ldM ro ⟨hp, lw, lp⟩ false es (.p (some q)) = some (.agg (X.getD i []))) ∧ ldA ro hp false es (.p (some q)) = some (.agg (X.getD i [])) ∧
    ∀ k, k < es → (∀ {lw lp : Nat}, ldM ro ⟨hp, lw, lp⟩ true 1 (.p (some ⟨q.ro, q.b, q.off + k⟩)) = some ((X.getD i []).getD k und)) ∧ ldA ro hp true 1 (.p (some ⟨q.ro, q.b, q.off + k⟩)) = some ((X.getD i []).getD k und) := by
  obtain ⟨h0, ⟨rfl, rfl⟩ | ⟨rfl, rfl⟩ | ⟨q, cap, blk, rfl, hb, hn, hc⟩⟩ := a
  · simp at hi
  · simp at hi
  · have hblt : Nat.blt i X.length = true := by rw [Nat.blt_eq]; exact hi
    have e : ((i : Int)) = Int.ofNat i := rfl
    have hl : (X.getD i []).length = es := h0 _ (by simp [List.getD, hi])
    have hle : i * es + es ≤ X.length * es := by
      have : (i + 1) * es ≤ X.length * es := Nat.mul_le_mul_right es hi
      rwa [Nat.add_mul, Nat.one_mul] at this
    refine ⟨⟨q.ro, q.b, q.off + i * es⟩, ?_, fun {hp} kp => ?_⟩
    · simp only [evP, ev_ixS, opd, e, atI, hblt, cond_true]
    · have hb1 : rdB ro hp q = some blk := by rw [take_eq kp.1 kp.2]; exact rdB_ext _ hb
      have hb' : rdB ro hp ⟨q.ro, q.b, q.off + i * es⟩ = some blk := hb1
      have hc4 : Nat.ble (q.off + i * es + es) blk.n = true := by rw [Nat.ble_eq]; omega
      have hrow : blk.c.row (q.off + i * es) es = X.getD i [] := by
        have := row_list (t := blk.c) (X.getD i []) (q.off + i * es) fun j hj => hc i hi j (by omega)
        rwa [hl] at this
      have hrd : rd ro hp false es ⟨q.ro, q.b, q.off + i * es⟩ = some (.agg (X.getD i [])) := by
        simp only [rd, hb', cond_false, hc4, cond_true, hrow]
      have hlt := rdB_lt hb1
      refine ⟨fun {lw lp} => hrd, by simp only [ldA, hlt, cond_true, hrd], fun k hk => ?_⟩
      have h1 : rd ro hp true 1 ⟨q.ro, q.b, q.off + i * es + k⟩ = some ((X.getD i []).getD k und) := by
        have hb2 : rdB ro hp ⟨q.ro, q.b, q.off + i * es + k⟩ = some blk := hb1
        have : Nat.blt (q.off + i * es + k) blk.n = true := by rw [Nat.blt_eq]; omega
        simp only [rd, hb2, cond_true, this, hc i hi k hk]
      exact ⟨fun {lw lp} => h1, by simp only [ldA, hlt, cond_true, h1]⟩
end
abbrev Ch.z : Ch := ⟨0, 0, 0, 0⟩
theorem getD_ch (l : List Ch) {i : Nat} (hi : i < l.length) : (l.map Ch.vs).getD i [] = (l.getD i Ch.z).vs := by simp [List.getD, hi]
abbrev IsCh (ro : List ABlk) (h : Heap) (v : AVal) (l : List Ch) : Prop := IsL ro h v 4 (l.map Ch.vs)
theorem at_ch {ro : List ABlk} {h : Heap} {v : AVal} {l : List Ch} (a : IsCh ro h v l) {i : Nat} (hi : i < l.length) : ∃ q : Vm.Loc, evP .e (.ixS 4 (.c v) (.c (.i .i64 (i : Int)))) = some (.p (some q)) ∧ ∀ {hp : Heap}, Keep h hp →
    (∀ {lw lp : Nat}, ldM ro ⟨hp, lw, lp⟩ false 4 (.p (some q)) = some (l.getD i Ch.z).v) ∧ ldA ro hp false 4 (.p (some q)) = some (l.getD i Ch.z).v := by
  obtain ⟨q, h1, h2⟩ := at_L a (i := i) (by simpa using hi)
  refine ⟨q, h1, fun {hp} kp => ?_⟩
  obtain ⟨h3, h4, -⟩ := h2 kp
  rw [getD_ch l hi] at h3 h4
  exact ⟨h3, h4⟩
theorem len_ch {ro : List ABlk} {h : Heap} {v : AVal} {l : List Ch} (a : IsCh ro h v l) : evP .e (.len false (.c v)) = some (.i .i64 l.length) := by
  have := len_L a; rwa [List.length_map] at this
/-- a list made of given changes -/
theorem new_L {ro : List ABlk} {hp : Heap} {e es : Nat} {X : List (List AVal)} (h : ∀ x ∈ X, x.length = es) (cap : Cap) : IsL ro (hp ++ [some (blkOf e X.flatten)]) (.sl ⟨false, hp.length, 0⟩ X.length cap) es X := by
  refine ⟨h, .inr (.inr ⟨⟨false, hp.length, 0⟩, cap, blkOf e X.flatten, rfl, rdB_heap (lget_last _ _) 0, ?_, fun j hj i hi => ?_⟩)⟩
  · show 0 + X.length * es ≤ X.flatten.length
    rw [flat_len h]; omega
  · rw [Nat.zero_add, get_blk, flat_get h hj hi]

theorem all_fold {α : Type} {p : α → Bool} {d : α} (l : List α) : (∀ i, i < l.length → p (l.getD i d) = true) ↔ l.all p = true := by
  rw [List.all_eq_true]
  constructor
  · intro h x hx
    obtain ⟨i, hi, rfl⟩ := List.mem_iff_getElem.1 hx
    have := h i hi
    simpa [List.getD, hi] using this
  · intro h i hi
    exact h _ (by simp [List.getD, hi])

section
variable {ro : List ABlk} {h : Heap}
theorem bxc {hp : Heap} {l p : Nat} (c : Ch) : stepM ro ⟨hp, l, p⟩ (.bx 24 4 (.c c.v)) = some (.p (some ⟨false, hp.length, 0⟩), ⟨hp ++ [some (blkOf 24 c.vs)], l, p⟩) := bx_ok 24 rfl
theorem g91_c (c : Ch) : callX G1 ro 91 [c.v] h = some (.b (!fitP c 300), h, h.length, h.length) := by
  refine g91_ok (meansX_ok _ ro) (Oc_none rfl rfl rfl rfl) ?_
  unfold g91
  have hb : lget (h ++ [some (blkOf 24 c.vs)]) h.length = some (some (blkOf 24 c.vs)) := lget_last _ _
  rw [bindP_of (bxc c), bindO_of (rd_all hb)]
  simp only [meansX_call]
  rw [bindP_of (cp (k62 c 300) (by simp) (by simp))]
  simp only [asB_b, forceB_eq, tupA]
  exact fin_keep (Keep.app _) rfl
/-- all of them fit: the program's and the reference's -/
theorem g95_c {v : AVal} {l : List Ch} (hl : IsCh ro h v l) (hn : l.length ≤ 1000000) : ∃ x : Int, callX G1 ro 95 [v, .fn 91 [] []] h = some (.i .i64 x, h, h.length, h.length) ∧ (x < 0 ↔ l.all (fun c => fitP c 300) = true) := by
  have e0 : ((0 : Nat) : Int) = 0 := rfl
  have hin : ∀ i, i < l.length → g95_b0 (meansX G1 ro) ro v (.fn 91 [] []) (l.length : Int) (i : Int) ⟨h, h.length, h.length⟩ = some (match (if fitP (l.getD i Ch.z) 300 then (none : Option ((Mm) ⊕ (Int × Mm))) else some (.inr ((i : Int), ⟨h, h.length, h.length⟩))) with | some r => .inr r | none => .inl (((i + 1 : Nat) : Int), ⟨h, h.length, h.length⟩)) := fun i hi => by
    obtain ⟨q, h1, h2⟩ := at_ch hl hi
    obtain ⟨h3, -⟩ := h2 (Keep.refl h)
    have hc : callyM (callX G1 ro) (roundX G1 ro) ⟨h, h.length, h.length⟩ (.fn 91 [] []) [(l.getD i Ch.z).v] = some (.b (!fitP (l.getD i Ch.z) 300), ⟨h, h.length, h.length⟩) := cp0 (g91_c (l.getD i Ch.z))
    simp only [g95_b0, forceB_eq, ltI_eq, lt_yes hi, cT, h1, h3, oS]
    have e1 : (meansX G1 ro).call = callX G1 ro := rfl
    have e2 : (meansX G1 ro).round = roundX G1 ro := rfl
    rw [e1, e2, bindP_of hc]
    simp only [asB_b]
    cases fitP (l.getD i Ch.z) 300
    · simp
    · simp only [Bool.not_true, cF, forceI_eq, wr_next (by omega : i ≤ 1000000)]; rfl
  have hout : g95_b0 (meansX G1 ro) ro v (.fn 91 [] []) (l.length : Int) (l.length : Int) ⟨h, h.length, h.length⟩ = some (.inr (.inl ⟨h, h.length, h.length⟩)) := by
    simp only [g95_b0, forceB_eq, ltI_eq, lt_no, cF]
  have hloop := loop_st (b := fun s : Int × Mm => g95_b0 (meansX G1 ro) ro v (.fn 91 [] []) (l.length : Int) s.1 s.2) (fun i => ((i : Int), ⟨h, h.length, h.length⟩)) l.length (fun i => if fitP (l.getD i Ch.z) 300 then none else some (.inr ((i : Int), ⟨h, h.length, h.length⟩))) (.inl ⟨h, h.length, h.length⟩) hout (fun i hi => by
    have := hin i hi
    by_cases hc : fitP (l.getD i Ch.z) 300 = true
    · simp only [hc, if_true] at this ⊢; exact this
    · simp only [hc] at this ⊢; exact this) l.length 0 (by omega)
  simp only [e0] at hloop
  have go : ∀ (o : Mm ⊕ (Int × Mm)) (x : Int), loopX (fun s : Int × Mm => g95_b0 (meansX G1 ro) ro v (.fn 91 [] []) (l.length : Int) s.1 s.2) (0, ⟨h, h.length, h.length⟩) = some o →
      (match o with | (.inl m_3) => finM h.length (tupA [(.i .i64 (-1))]) m_3 | (.inr (x4, m_4)) => finM h.length (tupA [(.i .i64 x4)]) m_4) = some (AVal.i .i64 x, h, h.length, h.length) → callX G1 ro 95 [v, .fn 91 [] []] h = some (.i .i64 x, h, h.length, h.length) := by
    intro o x ho hx
    refine g95_ok (meansX_ok _ ro) (Oc_none rfl rfl rfl rfl) ?_
    unfold g95
    simp only [len_ch hl, oS, asI_i, meansX_loop]
    rw [bindO_of ho]
    exact hx
  by_cases hall : l.all (fun c => fitP c 300) = true
  · have hf := (all_fold (d := Ch.z) l).2 hall
    rw [firstS_none.2 fun j _ hj => by rw [if_pos (hf j (by omega))]] at hloop
    exact ⟨-1, go _ _ hloop (fin_pure rfl), by simp [hall]⟩
  · cases hs : firstS (fun i => if fitP (l.getD i Ch.z) 300 then (none : Option ((Mm) ⊕ (Int × Mm))) else some (.inr ((i : Int), ⟨h, h.length, h.length⟩))) l.length 0 with
    | none =>
      exfalso
      apply hall
      refine (all_fold (d := Ch.z) l).1 fun i hi => ?_
      have := firstS_none.1 hs i (by omega) (by omega)
      by_cases hc : fitP (l.getD i Ch.z) 300 = true
      · exact hc
      · rw [if_neg hc] at this; cases this
    | some r =>
      obtain ⟨j, -, -, h3, -⟩ := firstS_some hs
      by_cases hc : fitP (l.getD j Ch.z) 300 = true
      · rw [if_pos hc] at h3; cases h3
      · rw [if_neg hc] at h3
        cases h3
        rw [hs] at hloop
        exact ⟨j, go _ _ hloop (fin_pure rfl), by simp [hall]⟩
theorem g65_c {v : AVal} {l : List Ch} (hl : IsCh ro h v l) (hn : l.length ≤ 1000000) : callX G1 ro 65 [v] h = some (.b (l.all fun c => fitP c 300), h, h.length, h.length) := by
  obtain ⟨x, h1, h2⟩ := g95_c hl hn
  have h90 : callX G1 ro 90 [v, .fn 91 [] []] h = some (.b (!l.all fun c => fitP c 300), h, h.length, h.length) := by
    refine g90_ok (meansX_ok _ ro) (Oc_none rfl rfl rfl rfl) ?_
    unfold g90
    simp only [meansX_call]
    rw [bindP_of (cp0 h1)]
    simp only [asI_i, forceB_eq, ltI_eq, tupA]
    have : (!decide (x < 0)) = !l.all fun c => fitP c 300 := by
      cases hb : (l.all fun c => fitP c 300)
      · have : ¬ x < 0 := fun h => by rw [h2.1 h] at hb; cases hb
        simp [this]
      · simp [h2.2 hb]
    rw [this]
    exact fin_pure rfl
  refine g65_ok (meansX_ok _ ro) (Oc_none rfl rfl rfl rfl) ?_
  unfold g65
  simp only [meansX_call]
  rw [bindP_of (cp0 h90)]
  simp only [asB_b, forceB_eq, tupA, Bool.not_not]
  exact fin_pure rfl
end
end Go.Proofs.Ythcadkmfbgonjaa.T

/- Three: by the program and by the reference. -/
open Go.Vm
set_option linter.unusedVariables false
namespace Go.Proofs.Ythcadkmfbgonjaa.T
open Go

theorem fit_kind {c : Ch} {n : Int} (h : fitP c n = true) : kindOk c := by
  unfold fitP at h
  by_cases h1 : c.k = 1
  · exact .inr (.inl h1)
  · rw [if_neg h1] at h
    by_cases h2 : c.k = 2
    · exact .inr (.inr h2)
    · rw [if_neg h2, decide_eq_true_eq] at h
      exact .inl (by rw [h])
theorem turn_k (c o : Ch) : (turnP c o).k = c.k := by
  unfold turnP upC
  split
  · rfl
  · split <;> rfl
theorem turn_kind {c : Ch} (o : Ch) (h : kindOk c) : kindOk (turnP c o) := by unfold kindOk; rw [turn_k]; exact h
def threeP (a b c : Ch) : Bool := decide (turnP (turnP c a) (turnP b a) = turnP (turnP c b) (turnP a b))
abbrev okC (c : Ch) : Bool := fitP c 300
theorem v_bel (c : Ch) (L : Nat) : AVal.bel L c.v = true := rfl
theorem v_bels (c o : Ch) (L : Nat) : bels L [c.v, o.v] = true := rfl
theorem sq_ch (c d : Ch) : evP .e (.seq false [(0, false), (1, false), (2, false), (3, false)] (.c c.v) (.c d.v)) = some (.b (decide (c = d))) := seq_ch false c d

section
variable {ro : List ABlk} {h hp : Heap} {l p : Nat}
theorem bsl3 (a b c : Ch) : stepM ro ⟨hp, l, p⟩ (.bsl 24 4 zC 3 [((0, 4), .c a.v), ((4, 4), .c b.v), ((8, 4), .c c.v)]) = some (.sl ⟨false, hp.length, 0⟩ 3 (.known 3), ⟨hp ++ [some (blkOf 24 (([a, b, c].map Ch.vs).flatten))], l, p⟩) := rfl
theorem is_bsl (L : List Ch) (cap : Cap) : IsCh ro (hp ++ [some (blkOf 24 ((L.map Ch.vs).flatten))]) (.sl ⟨false, hp.length, 0⟩ L.length cap) L := by
  have := new_L (ro := ro) (hp := hp) (e := 24) (es := 4) (X := L.map Ch.vs) (fun x hx => by obtain ⟨c, -, rfl⟩ := List.mem_map.1 hx; rfl) cap
  rwa [List.length_map] at this
theorem ldc {b : Nat} {c : Ch} (a : Holds hp b c.vs) : ldM ro ⟨hp, l, p⟩ false 4 (.p (some ⟨false, b, 0⟩)) = some c.v := a.all rfl
theorem ldcA {b : Nat} {c : Ch} (a : Holds hp b c.vs) : ldA ro hp false 4 (.p (some ⟨false, b, 0⟩)) = some c.v := a.allA rfl
/-- a new variable, and what is put in it -/
theorem wr_new (r : Ch) : ∃ hp', writesM ro [] [(⟨false, hp.length, 0⟩, AVal.cells r.v)] ⟨hp ++ [some (blkOf 24 zC)], l, p⟩ = some ⟨hp', min l hp.length, p⟩ ∧ Holds hp' hp.length r.vs ∧ Keep hp hp' ∧ hp'.length = hp.length + 1 := by
  have hb : lget (hp ++ [some (blkOf 24 zC)]) hp.length = some (some (blkOf 24 zC)) := lget_last _ _
  have hw := wrH_all hb (vs := r.vs) (by show 4 ≤ 4; omega) rfl
  refine ⟨(hp ++ [some (blkOf 24 zC)]).set hp.length (some { blkOf 24 zC with c := (blkOf 24 zC).c.splice 0 r.vs }), ?_, ⟨_, lget_set hb _, rfl, fun j hj => ?_⟩, ?_, by simp⟩
  · have e : AVal.cells r.v = r.vs := rfl
    have hn : nonp r.vs = true := rfl
    simp only [writesM, writes, e, hw, hn, ckOk, if_true, St.mm]
  · show ((blkOf 24 zC).c.splice 0 r.vs).get j = _
    rw [spliceGet, if_pos (by omega)]; simp
  · exact (Keep.app _).set (Nat.le_refl _) _


theorem three34 (a b c : Ch) : callX G1 ro 34 [a.v, b.v, c.v] h = some (.tup [.b (cond (okC a && (okC b && okC c)) (threeP a b c) false), .i .i64 (cond (okC a && (okC b && okC c)) 0 2)], h, h.length, h.length) := by
  refine g34_ok (meansX_ok _ ro) (Oc_none rfl rfl rfl rfl) ?_
  unfold g34
  obtain ⟨H1, e1⟩ : ∃ H1, H1 = h ++ [some (blkOf 24 a.vs)] := ⟨_, rfl⟩
  obtain ⟨H2, e2⟩ : ∃ H2, H2 = H1 ++ [some (blkOf 24 b.vs)] := ⟨_, rfl⟩
  obtain ⟨H3, e3⟩ : ∃ H3, H3 = H2 ++ [some (blkOf 24 c.vs)] := ⟨_, rfl⟩
  obtain ⟨H4, e4⟩ : ∃ H4, H4 = H3 ++ [some (blkOf 24 (([a, b, c].map Ch.vs).flatten))] := ⟨_, rfl⟩
  have k1 : Keep h H1 := by rw [e1]; exact Keep.app _
  have k2 : Keep H1 H2 := by rw [e2]; exact Keep.app _
  have k3 : Keep H2 H3 := by rw [e3]; exact Keep.app _
  have k4 : Keep H3 H4 := by rw [e4]; exact Keep.app _
  have l1 : h.length ≤ H1.length := k1.1
  have l2 : H1.length ≤ H2.length := k2.1
  have l3 : H2.length ≤ H3.length := k3.1
  have l4 : H3.length ≤ H4.length := k4.1
  have b1 : Holds H1 h.length a.vs := by rw [e1]; exact Holds.new _ _ _
  have b2 : Holds H2 H1.length b.vs := by rw [e2]; exact Holds.new _ _ _
  have b3 : Holds H3 H2.length c.vs := by rw [e3]; exact Holds.new _ _ _
  have a3 := (b1.by k2).by k3
  have a4 := a3.by k4
  have c3 := b2.by k3
  have c4 := c3.by k4
  have d4 := b3.by k4
  have s4 := bsl3 (ro := ro) (hp := H3) (l := h.length) (p := h.length) a b c
  rw [← e4] at s4
  have hl : IsCh ro H4 (.sl ⟨false, H3.length, 0⟩ 3 (.known 3)) [a, b, c] := by rw [e4]; exact is_bsl [a, b, c] _
  rw [bindP_of (bxc a), ← e1, bindP_of (bxc b), ← e2, bindP_of (bxc c), ← e3, bindO_of (ldc a3), bindO_of (ldc c3), bindO_of (ldc b3), bindP_of s4]
  simp only [meansX_call]
  rw [bindP_of (cp (g65_c hl (by simp)) (by omega) (by omega))]
  simp only [asB_b, forceB_eq]
  have hall : ([a, b, c].all fun c => fitP c 300) = (okC a && (okC b && okC c)) := by simp
  rw [hall]
  cases hok : (okC a && (okC b && okC c))
  · simp only [Bool.not_false, cT, tupA]
    exact fin_keep (k1.trans (k2.trans (k3.trans k4))) rfl
  · rw [Bool.and_eq_true, Bool.and_eq_true] at hok
    obtain ⟨oa, ob, oc⟩ := hok
    have ka := fit_kind oa
    have kb := fit_kind ob
    have kc := fit_kind oc
    simp only [Bool.not_true, cF]
    have cn : ∀ {H hh : Heap} {x y : Ch}, kindOk x → kindOk y → callNF (callX G1 ro) H hh 66 [x.v, y.v] = some ((turnP x y).v, hh) := fun hx hy => callNF_pure (k66 hx hy) (v_bels _ _ _) (v_bel _ _)
    rw [bindO_of (ldcA d4), bindO_of (ldcA a4), bindO_of (cn kc ka), bindO_of (ldcA c4), bindO_of (ldcA a4), bindO_of (cn kb ka), bindO_of (cn (turn_kind _ kc) (turn_kind _ kb)), oS]
    simp only [asP_p]
    obtain ⟨H5, w1, w2, w3, w4⟩ := wr_new (ro := ro) (hp := H4) (l := h.length) (p := h.length) (turnP (turnP c a) (turnP b a))
    rw [Nat.min_eq_left (by omega)] at w1
    have chk4 : ∀ (r : Ch), Nat.beq (AVal.cells r.v).length 4 = true := fun _ => rfl
    simp only [chk4, chk_true]
    rw [bindO_of w1, bindO_of (ldcA (d4.by w3)), bindO_of (ldcA (c4.by w3)), bindO_of (cn kc kb), bindO_of (ldcA (a4.by w3)), bindO_of (ldcA (c4.by w3)), bindO_of (cn ka kb), bindO_of (cn (turn_kind _ kc) (turn_kind _ ka)), oS]
    simp only [asP_p, chk4, chk_true]
    obtain ⟨H6, x1, x2, x3, x4⟩ := wr_new (ro := ro) (hp := H5) (l := h.length) (p := h.length) (turnP (turnP c b) (turnP a b))
    rw [Nat.min_eq_left (by omega)] at x1
    rw [bindO_of x1, bindO_of (ldc (w2.by x3)), bindO_of (ldc x2), bindO_of (sq_ch _ _)]
    simp only [asB_b, tupA]
    exact fin_keep (k1.trans (k2.trans (k3.trans (k4.trans (w3.trans x3))))) rfl
end
end Go.Proofs.Ythcadkmfbgonjaa.T

/- Three by the reference; turned twice in either order is the same; the law NoteThree. -/
open Go.Vm
set_option linter.unusedVariables false
namespace Go.Proofs.Ythcadkmfbgonjaa.T
open Go

theorem ok_bounds {c : Ch} (h : okC c = true) : 0 ≤ c.a ∧ c.a ≤ 300 := by
  unfold okC fitP at h
  by_cases h1 : c.k = 1
  · rw [if_pos h1] at h; simp at h; omega
  · rw [if_neg h1] at h
    by_cases h2 : c.k = 2
    · rw [if_pos h2] at h
      rw [wr_id' (by omega) (by omega)] at h
      simp at h; omega
    · rw [if_neg h2, decide_eq_true_eq] at h
      rw [h]; decide
theorem ok_w {c : Ch} (h : okC c = true) (h1 : c.k = 1) : c.w < 1000 := by
  unfold okC fitP at h
  rw [if_pos h1] at h; simp at h; omega
theorem turn_off {c o : Ch} (h : o.k ≠ 1) : turnP c o = c := by unfold turnP; rw [if_pos (.inl h)]
theorem turn_nil {c : Ch} (o : Ch) (h : c.k = 0) : turnP c o = c := by unfold turnP; rw [if_pos (.inr h)]
/-- by how much a place moves -/
def mv (a w c W : Int) : Int := if a < c ∨ (a = c ∧ w < W) then 1 else 0
theorem mv_or (a w c W : Int) : (mv a w c W = 1 ∧ (a < c ∨ (a = c ∧ w < W))) ∨ (mv a w c W = 0 ∧ ¬ (a < c ∨ (a = c ∧ w < W))) := by
  unfold mv
  split
  · exact .inl ⟨rfl, ‹_›⟩
  · exact .inr ⟨rfl, ‹_›⟩
theorem mv_two {a b c wa wb W : Int} (hab : wa ≠ wb) (ha : wa ≠ W) (hb : wb ≠ W) :
    mv a wa c W + mv (b + mv a wa b wb) wb (c + mv a wa c W) W = mv b wb c W + mv (a + mv b wb a wa) wa (c + mv b wb c W) W := by
  have h1 := mv_or a wa c W
  have h2 := mv_or a wa b wb
  have h3 := mv_or b wb c W
  have h4 := mv_or b wb a wa
  have h5 := mv_or (b + mv a wa b wb) wb (c + mv a wa c W) W
  have h6 := mv_or (a + mv b wb a wa) wa (c + mv b wb c W) W
  generalize mv (b + mv a wa b wb) wb (c + mv a wa c W) W = u at *
  generalize mv (a + mv b wb a wa) wa (c + mv b wb c W) W = v at *
  generalize mv a wa c W = s1 at *
  generalize mv a wa b wb = t1 at *
  generalize mv b wb c W = s2 at *
  generalize mv b wb a wa = t2 at *
  rcases h1 with ⟨rfl, h1⟩ | ⟨rfl, h1⟩ <;> rcases h2 with ⟨rfl, h2⟩ | ⟨rfl, h2⟩ <;> rcases h3 with ⟨rfl, h3⟩ | ⟨rfl, h3⟩ <;> rcases h4 with ⟨rfl, h4⟩ | ⟨rfl, h4⟩ <;> rcases h5 with ⟨rfl, h5⟩ | ⟨rfl, h5⟩ <;> rcases h6 with ⟨rfl, h6⟩ | ⟨rfl, h6⟩ <;> omega
/-- a change's rank among changes at its place -/
def rank (c : Ch) : Int := if c.k = 2 then 1000 else c.w
theorem turn_mv {c o : Ch} (ho : o.k = 1) (hc : c.k = 1 ∨ c.k = 2) (hw : o.w ≠ rank c) (hs : o.w < 1000) (b1 : 0 ≤ c.a) (b2 : c.a ≤ 1000) : turnP c o = ⟨c.k, c.a + mv o.a o.w c.a (rank c), c.l, c.w⟩ := by
  unfold turnP upC mv
  rw [if_neg (by omega), wr_id' (by omega) (by omega)]
  unfold rank at hw ⊢
  rcases hc with hc | hc
  · have n2 : ¬ c.k = 2 := by omega
    simp only [if_neg n2] at hw ⊢
    by_cases h : o.a < c.a ∨ (o.a = c.a ∧ o.w < c.w)
    · rw [if_pos (c := o.a < c.a ∨ (o.a = c.a ∧ o.w < c.w)) h, if_pos (by omega)]
    · rw [if_neg (c := o.a < c.a ∨ (o.a = c.a ∧ o.w < c.w)) h, if_neg (by omega), Int.add_zero]
  · simp only [if_pos hc] at hw ⊢
    by_cases h : o.a < c.a ∨ (o.a = c.a ∧ o.w < 1000)
    · rw [if_pos (c := o.a < c.a ∨ (o.a = c.a ∧ o.w < 1000)) h, if_pos (by omega)]
    · rw [if_neg (c := o.a < c.a ∨ (o.a = c.a ∧ o.w < 1000)) h, if_neg (by omega), Int.add_zero]
theorem mv_le (a w c W : Int) : 0 ≤ mv a w c W ∧ mv a w c W ≤ 1 := by rcases mv_or a w c W with ⟨e, -⟩ | ⟨e, -⟩ <;> rw [e] <;> omega
/-- turned against two puts, in either order -/
theorem two_puts {a b c : Ch} (ba : 0 ≤ a.a ∧ a.a ≤ 900) (bb : 0 ≤ b.a ∧ b.a ≤ 900) (bc : 0 ≤ c.a ∧ c.a ≤ 900) (ka : a.k = 1) (kb : b.k = 1) (kc : c.k = 1 ∨ c.k = 2) (sa : a.w < 1000) (sb : b.w < 1000) (hab : a.w ≠ b.w) (hac : c.k = 1 → a.w ≠ c.w) (hbc : c.k = 1 → b.w ≠ c.w) :
    turnP (turnP c a) (turnP b a) = turnP (turnP c b) (turnP a b) := by
  have ra : a.w ≠ rank c := by
    unfold rank
    rcases kc with h | h
    · rw [if_neg (by omega)]; exact hac h
    · rw [if_pos h]; omega
  have rb : b.w ≠ rank c := by
    unfold rank
    rcases kc with h | h
    · rw [if_neg (by omega)]; exact hbc h
    · rw [if_pos h]; omega
  have rka : rank a = a.w := by unfold rank; rw [if_neg (by omega)]
  have rkb : rank b = b.w := by unfold rank; rw [if_neg (by omega)]
  have m1 := mv_le a.a a.w c.a (rank c)
  have m2 := mv_le a.a a.w b.a (rank b)
  have m3 := mv_le b.a b.w c.a (rank c)
  have m4 := mv_le b.a b.w a.a (rank a)
  rw [turn_mv (c := c) ka kc ra sa bc.1 (by omega), turn_mv (c := b) (o := a) ka (.inl kb) (by rw [rkb]; exact hab) sa bb.1 (by omega), turn_mv (c := c) (o := b) kb kc rb sb bc.1 (by omega), turn_mv (c := a) (o := b) kb (.inl ka) (by rw [rka]; exact fun h => hab h.symm) sb ba.1 (by omega)]
  have rr : ∀ x : Int, rank ⟨c.k, x, c.l, c.w⟩ = rank c := fun _ => rfl
  rw [turn_mv (c := ⟨c.k, c.a + mv a.a a.w c.a (rank c), c.l, c.w⟩) (o := ⟨b.k, b.a + mv a.a a.w b.a (rank b), b.l, b.w⟩) kb kc (by rw [rr]; exact rb) sb (by show 0 ≤ c.a + _; omega) (by show c.a + _ ≤ 1000; omega), turn_mv (c := ⟨c.k, c.a + mv b.a b.w c.a (rank c), c.l, c.w⟩) (o := ⟨a.k, a.a + mv b.a b.w a.a (rank a), a.l, a.w⟩) ka kc (by rw [rr]; exact ra) sa (by show 0 ≤ c.a + _; omega) (by show c.a + _ ≤ 1000; omega)]
  simp only [rr, rka, rkb]
  have := mv_two (a := a.a) (b := b.a) (c := c.a) (W := rank c) hab ra rb
  simp only [Ch.mk.injEq, true_and, and_true]
  omega
theorem three_true {a b c : Ch} (oa : okC a = true) (ob : okC b = true) (oc : okC c = true) (hab : ¬ (a.k = 1 ∧ b.k = 1 ∧ a.w = b.w)) (hac : ¬ (a.k = 1 ∧ c.k = 1 ∧ a.w = c.w)) (hbc : ¬ (b.k = 1 ∧ c.k = 1 ∧ b.w = c.w)) : threeP a b c = true := by
  unfold threeP
  rw [decide_eq_true_eq]
  by_cases c0 : c.k = 0
  · rw [turn_nil a c0, turn_nil b c0, turn_nil _ c0, turn_nil _ c0]
  by_cases a1 : a.k = 1
  · by_cases b1 : b.k = 1
    · have kc := fit_kind oc
      obtain ⟨p1, p2⟩ := ok_bounds oa
      obtain ⟨p3, p4⟩ := ok_bounds ob
      obtain ⟨p5, p6⟩ := ok_bounds oc
      exact two_puts ⟨p1, by omega⟩ ⟨p3, by omega⟩ ⟨p5, by omega⟩ a1 b1 (kc.resolve_left c0) (ok_w oa a1) (ok_w ob b1) (fun h => hab ⟨a1, b1, h⟩) (fun h1 h2 => hac ⟨a1, h1, h2⟩) (fun h1 h2 => hbc ⟨b1, h1, h2⟩)
    · rw [turn_off (c := turnP c a) (o := turnP b a) (by rw [turn_k]; exact b1), turn_off (c := c) (o := b) b1, turn_off (c := a) (o := b) b1]
  · rw [turn_off (c := turnP c b) (o := turnP a b) (by rw [turn_k]; exact a1), turn_off (c := c) (o := a) a1, turn_off (c := b) (o := a) a1]

section
variable {ro : List ABlk} {h : Heap}
/-- the law -/
theorem law12 (a b c : Ch) : ∃ h' lw lp, callX G1 ro 12 [a.v, b.v, c.v] h = some (.b true, h', lw, lp) := by
  refine ⟨h, h.length, h.length, g12_ok (meansX_ok _ ro) (Oc_none rfl rfl rfl rfl) ?_⟩
  unfold g12
  obtain ⟨H1, e1⟩ : ∃ H1, H1 = h ++ [some (blkOf 24 a.vs)] := ⟨_, rfl⟩
  obtain ⟨H2, e2⟩ : ∃ H2, H2 = H1 ++ [some (blkOf 24 b.vs)] := ⟨_, rfl⟩
  obtain ⟨H3, e3⟩ : ∃ H3, H3 = H2 ++ [some (blkOf 24 c.vs)] := ⟨_, rfl⟩
  have k1 : Keep h H1 := by rw [e1]; exact Keep.app _
  have k2 : Keep H1 H2 := by rw [e2]; exact Keep.app _
  have k3 : Keep H2 H3 := by rw [e3]; exact Keep.app _
  have g1 : lget H3 h.length = some (some (blkOf 24 a.vs)) := by
    rw [e3, e2, e1, List.append_assoc]
    exact lget_ext (lget_last _ _) _
  have g2 : lget H3 H1.length = some (some (blkOf 24 b.vs)) := by
    rw [e3, e2]
    exact lget_ext (lget_last _ _) _
  have g3 : lget H3 H2.length = some (some (blkOf 24 c.vs)) := by rw [e3]; exact lget_last _ _
  have kf := k1.trans (k2.trans k3)
  have hl : h.length ≤ H3.length := kf.1
  have f17 : callM (callX G1 ro) ⟨H3, h.length, h.length⟩ 17 [] = some (.b true, ⟨H3, h.length, h.length⟩) := cp gAlive hl hl
  rw [bindP_of (bxc a), ← e1, bindP_of (bxc b), ← e2, bindP_of (bxc c), ← e3, bindO_of (rd_all g1), bindO_of (rd_all g2), bindO_of (rd_all g3)]
  simp only [meansX_call]
  rw [bindP_of (cp (three34 a b c) hl hl), bindO_of (ext0 _ _)]
  simp only [asB_b]
  rw [bindO_of (ext1 _ _ _)]
  simp only [asI_i, forceB_eq, eqI_eq]
  cases hok : (okC a && (okC b && okC c))
  · simp only [cF]
    have e1' : (!((2 : Int) == 0)) = true := rfl
    have e2' : ((2 : Int) == 2) = true := rfl
    simp only [e1', e2', cT, Bool.not_false, oS]
    simp only [bindP_of f17, asB_b, oS, tupA]
    exact fin_keep kf rfl
  · rw [Bool.and_eq_true, Bool.and_eq_true] at hok
    obtain ⟨oa, ob, oc⟩ := hok
    simp only [cT]
    have e1' : (!((0 : Int) == 0)) = false := rfl
    simp only [e1', cF, fS, oS, rd_k g1, rd_k g2, rd_k g3, rd_w g1, rd_w g2, rd_w g3, asI_i]
    have beq : ∀ x y : Int, (x == y) = decide (x = y) := fun _ _ => rfl
    simp only [beq]
    have done : ∀ d : Bool, d = true → (cond d (bindP (callM (callX G1 ro) ⟨H3, h.length, h.length⟩ 17 []) fun v76 m_7 => asB v76 fun c76 => finM h.length (tupA [(.b c76)]) m_7)
        (bindO (cond (threeP a b c) (bindP (callM (callX G1 ro) ⟨H3, h.length, h.length⟩ 17 []) fun v79 m_9 => asB v79 fun c79 => some (c79, m_9)) (some (false, ⟨H3, h.length, h.length⟩))) fun (x : Bool × Mm) => match x with | (c80, m_8) => finM h.length (tupA [(.b c80)]) m_8)) = some (AVal.b true, h, h.length, h.length) := fun d hd => by
      subst hd
      rw [cT, bindP_of f17]
      simp only [asB_b, tupA]
      exact fin_keep kf rfl
    have ends : ∀ d : Bool, (d = false → threeP a b c = true) → (cond d (bindP (callM (callX G1 ro) ⟨H3, h.length, h.length⟩ 17 []) fun v76 m_7 => asB v76 fun c76 => finM h.length (tupA [(.b c76)]) m_7)
        (bindO (cond (threeP a b c) (bindP (callM (callX G1 ro) ⟨H3, h.length, h.length⟩ 17 []) fun v79 m_9 => asB v79 fun c79 => some (c79, m_9)) (some (false, ⟨H3, h.length, h.length⟩))) fun (x : Bool × Mm) => match x with | (c80, m_8) => finM h.length (tupA [(.b c80)]) m_8)) = some (AVal.b true, h, h.length, h.length) := fun d hd => by
      cases d with
      | true => exact done true rfl
      | false =>
        rw [cF, hd rfl, cT, bindP_of f17]
        simp only [asB_b, oS, tupA]
        exact fin_keep kf rfl
    have T : (decide (a.k = 1) && decide (b.k = 1) && decide (a.w = b.w)) = false → (decide (a.k = 1) && decide (c.k = 1) && decide (a.w = c.w)) = false → (decide (b.k = 1) && decide (c.k = 1) && decide (b.w = c.w)) = false → threeP a b c = true := fun h1 h2 h3 =>
      three_true oa ob oc (fun ⟨x, y, z⟩ => by simp [x, y, z] at h1) (fun ⟨x, y, z⟩ => by simp [x, y, z] at h2) (fun ⟨x, y, z⟩ => by simp [x, y, z] at h3)
    generalize decide (a.k = 1) = d1 at *
    generalize decide (b.k = 1) = d2 at *
    generalize decide (c.k = 1) = d3 at *
    generalize decide (a.w = b.w) = d4 at *
    generalize decide (a.w = c.w) = d5 at *
    generalize decide (b.w = c.w) = d6 at *
    cases d1 <;> cases d2 <;> cases d3 <;> cases d4 <;> cases d5 <;> cases d6 <;> first | exact ends false fun _ => T rfl rfl rfl | exact done true rfl
end
end Go.Proofs.Ythcadkmfbgonjaa.T

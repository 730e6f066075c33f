/- Contracts of the functions: what each of them answers. -/
import Derived.Test.YthcadkmfbgonjaaVmGa0
import Derived.Test.YthcadkmfbgonjaaVmFO
import Derived.Test.YthcadkmfbgonjaaVmGt
import Derived.Test.YthcadkmfbgonjaaVmAE
import Derived.Test.YthcadkmfbgonjaaVmAF
import Derived.Test.YthcadkmfbgonjaaRows
import Derived.WalkKit
import Derived.ProofKit
import Derived.OpenShut
import Derived.Carry
import Derived.Deep.Slices
import Derived.ChangeMaps5
import Derived.Test.YthcadkmfbgonjaaVmAG
/- From the small machine to the statement: structs and lists of structs whose fields are numbers and truth values, in memory that is only read. -/
open Go.Vm
set_option linter.unusedVariables false
namespace Go.Proofs.Ythcadkmfbgonjaa.T
open Go Go.RowKit Go.Deep Go.WideShapes Go.ChangeShapes

instance : Inhabited AVal := ⟨und⟩
/-- a plain value in the world -/
def toV : AVal → Value
  | .i k n => .int k n
  | .b x => .bool x
  | _ => undef
/-- cells of given kinds: numbers, or truth values (none) -/
def Typed (ks : List (Option IntKind)) (vs : List AVal) : Prop := vs.length = ks.length ∧ ∀ j, j < ks.length →
  (∀ k, ks[j]? = some (some k) → ∃ n, vs.getD j und = .i k n ∧ (Lit.int k n).wf = true) ∧ (ks[j]? = some none → ∃ b, vs.getD j und = .b b)
theorem Typed.vr {ks : List (Option IntKind)} {vs : List AVal} (h : Typed ks vs) {j : Nat} (hj : j < ks.length) (y : Rl) : VR y [] (vs.getD j und) (toV (vs.getD j und)) := by
  obtain ⟨h1, h2⟩ := h.2 j hj
  have hk : ks[j]? = some ks[j] := List.getElem?_eq_getElem hj
  cases hkk : ks[j] with
  | none => obtain ⟨b, e⟩ := h2 (by rw [hk, hkk]); rw [e]; exact .b _
  | some k => obtain ⟨n, e, -⟩ := h1 k (by rw [hk, hkk]); rw [e]; exact .i _ _

/-- the fields of a struct type, one cell each -/
def Flds (t : TypeId) (ks : List (Option IntKind)) : Prop := ∃ fs : Array Field, Try.prog.underlying t = some (.struct fs) ∧ fs.size = ks.length ∧ Try.prog.cellsOf t = ks.length ∧
  ∀ j, j < ks.length → ∃ f, fs[j]? = some f ∧ f.offset = j ∧ Try.prog.cellsOf f.type = 1 ∧ (∀ k, ks[j]? = some (some k) → Try.prog.underlying f.type = some (.int k)) ∧ (ks[j]? = some none → Try.prog.underlying f.type = some .bool)

section
variable {H : Type} {enc : TypeId × Value → H} {W : World} {sp : Nat → Bool} {held : Bool} {base : Nat}
theorem struct_cells {t : TypeId} {ks : List (Option IntKind)} (hF : Flds t ks) {fuel : Nat} {cs : List Value} {x : DataW H × List MemPlace} (h : DataW.trod enc Try.prog W base sp held fuel t cs = some x) :
    ∃ vs, Typed ks vs ∧ cs = vs.map toV := by
  obtain ⟨fs, hu, hsz, hce, hf⟩ := hF
  obtain ⟨xs, k, hk, hxy, hcl, hxl, hfs⟩ := DataW.trod_struct hu h
  have one : ∀ j, j < ks.length → ∃ v : AVal, cs[j]? = some (toV v) ∧ (∀ k, ks[j]? = some (some k) → ∃ n, v = .i k n ∧ (Lit.int k n).wf = true) ∧ (ks[j]? = some none → ∃ b, v = .b b) := by
    intro j hj
    obtain ⟨f, hfj, hoff, hc1, hi, hb⟩ := hf j hj
    have h3 := hfs j f hfj
    rw [hoff, hc1] at h3
    have hx : xs[j]? = some xs[j] := List.getElem?_eq_getElem (by omega)
    rw [hx] at h3
    have hkj : ks[j]? = some ks[j] := List.getElem?_eq_getElem hj
    have cell : ∀ {w : Value}, (cs.drop j).take 1 = [w] → cs[j]? = some w := fun {w} e => by
      have h5 : ((cs.drop j).take 1)[0]? = some w := by rw [e]; rfl
      simpa [List.getElem?_take, List.getElem?_drop] using h5
    cases hkk : ks[j] with
    | none =>
      have := hb (by rw [hkj, hkk])
      obtain ⟨b, e1, -⟩ := DataW.trod_bool this h3
      exact ⟨.b b, cell e1, fun k hk => by rw [hkj, hkk] at hk; simp at hk, fun _ => ⟨b, rfl⟩⟩
    | some k =>
      have := hi k (by rw [hkj, hkk])
      obtain ⟨n, e1, -, e2⟩ := DataW.trod_int this h3
      exact ⟨.i k n, cell e1, fun k' hk => by rw [hkj, hkk] at hk; cases hk; exact ⟨n, rfl, e2⟩, fun hk => by rw [hkj, hkk] at hk; simp at hk⟩
  obtain ⟨y, hy⟩ := choose_lt (α := AVal) (p := fun j v => cs[j]? = some (toV v) ∧ (∀ k, ks[j]? = some (some k) → ∃ n, v = .i k n ∧ (Lit.int k n).wf = true) ∧ (ks[j]? = some none → ∃ b, v = .b b)) one
  have hlen : cs.length = ks.length := by rw [hcl, hce]
  have hg : ∀ j, j < ks.length → ((List.range ks.length).map y).getD j und = y j := fun j hj => by simp [List.getD, hj]
  refine ⟨(List.range ks.length).map y, ⟨by simp, fun j hj => ?_⟩, List.ext_getElem? fun j => ?_⟩
  · rw [hg j hj]; exact (hy j hj).2
  · rcases Nat.lt_or_ge j ks.length with hj | hj
    · rw [(hy j hj).1]; simp [hj]
    · rw [List.getElem?_eq_none (by omega), List.getElem?_eq_none (by simp; omega)]

/-- what is read in the world of a list of structs -/
structure OpenL (W : World) (v0 : Value) (ks : List (Option IntKind)) (len : Nat) (X : List (List AVal)) : Prop where
  o : (v0 = .slice none 0 0 ∧ len = 0 ∧ X = []) ∨ ∃ (a : Addr) (cap : Nat), v0 = .slice (some a) len cap ∧ len ≤ cap ∧ X.length = cap ∧
    ∀ i, i < cap → ∀ j, j < ks.length → a.block < W.heap.size ∧ W.cell? (a.add (i * ks.length + j)) = some (toV ((X.getD i []).getD j und))
  len_le : len ≤ 9223372036854775807
  typed : ∀ x ∈ X, Typed ks x

theorem opened_list {ts t : TypeId} (hu : Try.prog.underlying ts = some (.slice t)) {ks : List (Option IntKind)} (hF : Flds t ks) {v0 : Value} {d : DataW H} {p : List MemPlace} (hs : ∃ a len cap, v0 = .slice a len cap) (h : DataW.Trod enc Try.prog W 0 (fun _ => true) held ts v0 d p) :
    ∃ len X, OpenL W v0 ks len X := by
  obtain ⟨a0, len, cap, rfl⟩ := hs
  obtain ⟨fuel, hf⟩ := h
  have hml : maxLen = 9223372036854775807 := rfl
  have hce : Try.prog.cellsOf t = ks.length := by obtain ⟨_, _, _, h, _⟩ := hF; exact h
  rcases open_slice hu hf with ⟨hcs0, hx⟩ | ⟨a, len', cap', m, n, D, Pl, hcs0, _, hl, hm, hmm, hx, hel⟩
  · simp [Value.cells] at hcs0
    obtain ⟨rfl, rfl, rfl⟩ := hcs0
    exact ⟨0, [], .inl ⟨rfl, rfl, rfl⟩, by omega, by simp⟩
  · simp [Value.cells] at hcs0
    obtain ⟨rfl, rfl, rfl⟩ := hcs0
    simp only [if_true] at hmm
    subst hmm
    have each : ∀ i, i < m → ∃ y : List AVal, Typed ks y ∧ ∀ k, k < ks.length → W.cell? (a.add (i * ks.length + k)) = some (toV (y.getD k und)) := by
      intro i hi
      obtain ⟨cs', h1, h2⟩ := hel i hi
      rw [hce] at h1
      obtain ⟨_, hlen, hcell⟩ := World.cells?_some h1
      obtain ⟨vs, ht, hvs⟩ := struct_cells hF h2
      refine ⟨vs, ht, fun k hk => ?_⟩
      have h4 := hcell k hk
      rw [addr_addadd] at h4
      rw [h4, hvs]
      have : k < vs.length := by rw [ht.1]; exact hk
      simp [List.getD, this]
    obtain ⟨y, hy⟩ := choose_lt (α := List AVal) (p := fun i y => Typed ks y ∧ ∀ k, k < ks.length → W.cell? (a.add (i * ks.length + k)) = some (toV (y.getD k und))) each
    refine ⟨len, (List.range m).map y, .inr ⟨a, m, rfl, hl, by simp, fun i hi j hj => ?_⟩, by omega, fun x hx => ?_⟩
    · have e : ((List.range m).map y).getD i [] = y i := by simp [List.getD, hi]
      rw [e]
      have h1 := (hy i hi).2 j hj
      exact ⟨World.block_lt_of_cell? _ _ h1 |> fun h => by simpa [addr_block] using h, h1⟩
    · obtain ⟨k, hk, rfl⟩ := List.mem_map.1 hx
      exact (hy k (List.mem_range.1 hk)).1
end

/-- a list of elements of es cells each, in memory -/
def IsL (ro : List ABlk) (h : Heap) (v : AVal) (es : Nat) (X : List (List AVal)) : Prop :=
  (∀ x ∈ X, x.length = es) ∧ ((v = .nsl ∧ X = []) ∨ (v = .esl ∧ X = []) ∨ ∃ q cap blk, v = .sl q X.length cap ∧ rdB ro h q = some blk ∧ q.off + X.length * es ≤ blk.n ∧
    ∀ j, j < X.length → ∀ i, i < es → blk.c.get (q.off + j * es + i) = (X.getD j []).getD i und)
/-- a slice that can be cut anywhere within its length -/
def CapO (v : AVal) : Prop := v ≠ .esl ∧ ∀ q n c, v = .sl q n c → c = .grow ∨ ∃ k, c = .known k ∧ n ≤ k

theorem flat_get {es : Nat} : ∀ {X : List (List AVal)}, (∀ x ∈ X, x.length = es) → ∀ {i j : Nat}, i < X.length → j < es → X.flatten.getD (i * es + j) und = (X.getD i []).getD j und
  | [], _, i, j, hi, _ => by simp at hi
  | x :: X, h, 0, j, hi, hj => by
    have hx := h x (by simp)
    simp only [List.flatten_cons, Nat.zero_mul, Nat.zero_add]
    rw [List.getD_eq_getElem?_getD, List.getElem?_append_left (by omega), ← List.getD_eq_getElem?_getD]
    rfl
  | x :: X, h, i + 1, j, hi, hj => by
    have hx := h x (by simp)
    simp only [List.flatten_cons]
    rw [List.getD_eq_getElem?_getD, List.getElem?_append_right (by rw [hx, Nat.add_mul]; omega), ← List.getD_eq_getElem?_getD]
    have := flat_get (X := X) (fun y hy => h y (by simp [hy])) (i := i) (by simpa using hi) hj
    rw [show (i + 1) * es + j - x.length = i * es + j by rw [hx, Nat.add_mul]; omega, this]
    simp
theorem flat_len {es : Nat} {X : List (List AVal)} (h : ∀ x ∈ X, x.length = es) : X.flatten.length = X.length * es := by
  induction X with
  | nil => simp
  | cons x X ih =>
    rw [List.flatten_cons, List.length_append, ih fun y hy => h y (by simp [hy]), h x (by simp), List.length_cons, Nat.add_mul]; omega

/-- of an argument: read-only memory for it -/
theorem ro_list {W : World} {v0 : Value} {ks : List (Option IntKind)} {len : Nat} {X : List (List AVal)} (hO : OpenL W v0 ks len X) (hes : 0 < ks.length) (pre : List ABlk) (prl : Rl) (hp : pre.length = prl.length) : ∃ (ro : List ABlk) (rl : Rl) (v : AVal), ro.length = rl.length ∧ CapO v ∧
    (∀ x y h, IsL (pre ++ ro ++ x) h v ks.length (X.take len) ∧ VR (prl ++ rl ++ y) [] v v0) ∧
    ∀ (i : Nat) (b : ABlk), ro[i]? = some b → ∃ x, rl[i]? = some x ∧ ∀ j, j < b.n → x.block < W.heap.size ∧ ∃ v', W.cell? (x.add j) = some v' ∧ ∀ y, VR y [] (b.c.get j) v' := by
  have hty := hO.typed
  have hlen : ∀ x ∈ X, x.length = ks.length := fun x hx => (hty x hx).1
  rcases hO.o with ⟨rfl, rfl, rfl⟩ | ⟨a, cap, rfl, hcap, hX, hcell⟩
  · exact ⟨[], [], .nsl, rfl, ⟨(by simp), fun q n c e => by cases e⟩, fun x y h => ⟨⟨by simp, .inl ⟨rfl, rfl⟩⟩, .nsl⟩, fun i b hb => by simp at hb⟩
  · have hget : ∀ i, i < cap → ∀ j, j < ks.length → (Tr.mk X.flatten).get (i * ks.length + j) = (X.getD i []).getD j und := fun i hi j hj => by
      rw [get_mk, flat_get hlen (by omega) hj]
    refine ⟨[⟨0, cap * ks.length, Tr.mk X.flatten, none⟩], [a], .sl ⟨true, pre.length, 0⟩ len (.known cap), rfl, ⟨(by simp), fun q n c e => by cases e; exact .inr ⟨_, rfl, hcap⟩⟩, fun x y h => ⟨⟨fun z hz => hlen z (List.mem_of_mem_take hz), .inr (.inr ⟨⟨true, pre.length, 0⟩, .known cap, ⟨0, cap * ks.length, Tr.mk X.flatten, none⟩, ?_, ?_, ?_, fun j hj i hi => ?_⟩)⟩, ?_⟩, fun i b hb => ?_⟩
    · rw [List.length_take, Nat.min_eq_left (by omega)]
    · simp only [rdB, cond_true, lget_eq, List.append_assoc]
      rw [List.getElem?_append_right (Nat.le_refl _)]; simp
    · rw [List.length_take, Nat.min_eq_left (by omega)]
      have := Nat.mul_le_mul_right ks.length hcap
      simpa using this
    · rw [List.length_take, Nat.min_eq_left (by omega)] at hj
      have := hget j (by omega) i hi
      simp only [Nat.zero_add, this]
      congr 1
      rw [List.getD_eq_getElem?_getD, List.getD_eq_getElem?_getD, List.getElem?_take_of_lt hj]
    · refine .slk _ _ _ _ ?_
      show (((prl ++ [a] ++ y)[pre.length]?).map fun x => x.add 0) = some a
      rw [List.append_assoc, List.getElem?_append_right (by omega), hp]; simp [Addr.add]
    · cases i with
      | zero =>
        simp at hb
        subst hb
        refine ⟨a, rfl, fun j hj => ?_⟩
        have hj' : j < cap * ks.length := hj
        have e : j = j / ks.length * ks.length + j % ks.length := (Nat.div_add_mod' j ks.length).symm
        have h1 : j / ks.length < cap := Nat.div_lt_of_lt_mul (by rw [Nat.mul_comm]; exact hj')
        have h2 : j % ks.length < ks.length := Nat.mod_lt _ hes
        obtain ⟨h3, h4⟩ := hcell _ h1 _ h2
        rw [← e] at h4
        refine ⟨h3, _, h4, fun y => ?_⟩
        have := hget _ h1 _ h2
        rw [← e] at this
        simp only [this]
        have hm : X.getD (j / ks.length) [] ∈ X := by
          have : j / ks.length < X.length := by omega
          simp [List.getD, this]
        exact (hty _ hm).vr h2 y
      | succ i => simp at hb

theorem laidOut : laidOutB Try.prog = true := by kernel_rfl
theorem own : ownKnob Try.prog.godebug = none := by kernel_rfl
theorem cells4 : Try.prog.cellsOf 4 = 1 := by kernel_rfl
theorem cells5 : Try.prog.cellsOf 5 = 1 := by kernel_rfl
abbrev ksC : List (Option IntKind) := [some .u8, none]
theorem flds31 : Flds 31 ksC := by
  refine ⟨_, Try.underlying31, rfl, by kernel_rfl, fun j hj => ?_⟩
  match j, hj with
  | 0, _ => exact ⟨_, rfl, rfl, cells5, fun k h => by simp at h; subst h; exact Try.underlying5, fun h => by simp at h⟩
  | 1, _ => exact ⟨_, rfl, rfl, cells4, fun k h => by simp at h, fun _ => Try.underlying4⟩
theorem env_ok {W : World} {ro : List ABlk} {rl : Rl} (h : ∀ (i : Nat) (b : ABlk), ro[i]? = some b → ∃ x, rl[i]? = some x ∧ ∀ j, j < b.n → x.block < W.heap.size ∧ ∃ v', W.cell? (x.add j) = some v' ∧ VR rl [] (b.c.get j) v') :
    (Env.mk Try.prog W.heap.size W ro rl).Ok := ⟨fun i b hb => h i b hb, Nat.le_refl _⟩
/-- what lies in the read-only blocks -/
def RoP (W : World) (ro : List ABlk) (rl : Rl) : Prop := ∀ (i : Nat) (b : ABlk), ro[i]? = some b → ∃ x, rl[i]? = some x ∧ ∀ j, j < b.n → x.block < W.heap.size ∧ ∃ v', W.cell? (x.add j) = some v' ∧ ∀ y, VR y [] (b.c.get j) v'
theorem RoP.nil (W : World) : RoP W [] [] := fun i b hb => by simp at hb
theorem RoP.env {W : World} {ro : List ABlk} {rl : Rl} (h : RoP W ro rl) : (Env.mk Try.prog W.heap.size W ro rl).Ok := env_ok fun i b hb => by
  obtain ⟨y, h1, h2⟩ := h i b hb
  refine ⟨y, h1, fun j hj => ?_⟩
  obtain ⟨h3, v', h4, h5⟩ := h2 j hj
  exact ⟨h3, v', h4, h5 _⟩
theorem RoP.snoc {W : World} {ro ro' : List ABlk} {rl rl' : Rl} (hl : ro.length = rl.length) (h : RoP W ro rl) (h' : RoP W ro' rl') : RoP W (ro ++ ro') (rl ++ rl') := by
  intro i b hb
  rcases Nat.lt_or_ge i ro.length with hi | hi
  · rw [List.getElem?_append_left hi] at hb
    obtain ⟨x, h1, h2⟩ := h i b hb
    exact ⟨x, by rw [List.getElem?_append_left (by omega)]; exact h1, h2⟩
  · rw [List.getElem?_append_right hi] at hb
    obtain ⟨x, h1, h2⟩ := h' _ b hb
    exact ⟨x, by rw [List.getElem?_append_right (by omega), ← hl]; exact h1, h2⟩

/-- a cell of a sheet -/
structure Cl where
  l : Int
  hd : Bool
  deriving DecidableEq
/-- a change -/
structure Ch where
  k : Int
  a : Int
  l : Int
  w : Int
  deriving DecidableEq
def Cl.vs (c : Cl) : List AVal := [.i .u8 c.l, .b c.hd]
def Ch.vs (c : Ch) : List AVal := [.i .i64 c.k, .i .i64 c.a, .i .u8 c.l, .i .i64 c.w]
def Cl.fits (c : Cl) : Prop := 0 ≤ c.l ∧ c.l < 256
def Ch.fits (c : Ch) : Prop := inI64 c.k ∧ inI64 c.a ∧ (0 ≤ c.l ∧ c.l < 256) ∧ inI64 c.w
theorem wf_u8 {n : Int} (h : (Lit.int .u8 n).wf = true) : 0 ≤ n ∧ n < 256 := by
  simp [Lit.wf, IntKind.min, IntKind.max, IntKind.signed, IntKind.bits] at h
  constructor <;> omega
theorem Typed.cl {x : List AVal} (h : Typed ksC x) : ∃ c : Cl, x = c.vs ∧ c.fits := by
  obtain ⟨h1, h2⟩ := h
  obtain ⟨n, e0, w0⟩ := (h2 0 (by decide)).1 .u8 rfl
  obtain ⟨b, e1⟩ := (h2 1 (by decide)).2 rfl
  match x, h1 with
  | [p, q], _ =>
    simp at e0 e1
    subst e0 e1
    exact ⟨⟨n, b⟩, rfl, wf_u8 w0⟩
theorem all_map {α : Type} {f : α → List AVal} {P : List AVal → Prop} {Q : α → Prop} (h1 : ∀ x, P x → ∃ c, x = f c ∧ Q c) : ∀ {X : List (List AVal)}, (∀ x ∈ X, P x) → ∃ l : List α, X = l.map f ∧ ∀ c ∈ l, Q c
  | [], _ => ⟨[], rfl, by simp⟩
  | x :: X, h => by
    obtain ⟨c, e, hc⟩ := h1 x (h x (by simp))
    obtain ⟨l, e2, hl⟩ := all_map h1 (X := X) fun y hy => h y (by simp [hy])
    refine ⟨c :: l, by rw [e, e2]; rfl, fun d hd => ?_⟩
    rcases List.mem_cons.1 hd with rfl | hd
    · exact hc
    · exact hl d hd
end Go.Proofs.Ythcadkmfbgonjaa.T

/- Blocks that a function makes for itself; loops whose state is known. -/
open Go.Vm
set_option linter.unusedVariables false
namespace Go.Proofs.Ythcadkmfbgonjaa.T
open Go

/-- a block of the heap that holds these values -/
def Holds (hp : Heap) (b : Nat) (vs : List AVal) : Prop := ∃ blk : ABlk, lget hp b = some (some blk) ∧ blk.n = vs.length ∧ ∀ j, j < vs.length → blk.c.get j = vs.getD j und
/-- what was there is still there -/
def Keep (h hp : Heap) : Prop := h.length ≤ hp.length ∧ ∀ i, i < h.length → hp[i]? = h[i]?

section
variable {ro : List ABlk} {h hp hp' : Heap} {b k e n l p : Nat} {vs : List AVal}
theorem Keep.refl (h : Heap) : Keep h h := ⟨Nat.le_refl _, fun _ _ => rfl⟩
theorem Keep.trans {h1 : Heap} (a : Keep h h1) (c : Keep h1 hp) : Keep h hp := ⟨Nat.le_trans a.1 c.1, fun i hi => by rw [c.2 i (by have := a.1; omega), a.2 i hi]⟩
theorem Keep.app (x : Heap) : Keep h (h ++ x) := ⟨by simp, fun i hi => List.getElem?_append_left hi⟩
theorem Keep.set (a : Keep h hp) (hb : h.length ≤ b) (x : Option ABlk) : Keep h (hp.set b x) := ⟨by simpa using a.1, fun i hi => by rw [List.getElem?_set_ne (by omega)]; exact a.2 i hi⟩
theorem Keep.eq (a : Keep h hp) : hp.take h.length = h := by
  refine List.ext_getElem? fun i => ?_
  rcases Nat.lt_or_ge i h.length with hi | hi
  · rw [List.getElem?_take_of_lt hi, a.2 i hi]
  · rw [List.getElem?_eq_none (by simp; omega), List.getElem?_eq_none hi]
theorem fin_keep {v : AVal} (a : Keep h hp) (hv : v.bel h.length = true) : finM h.length v ⟨hp, h.length, h.length⟩ = some (v, h, h.length, h.length) := by
  rw [fin_take hv, a.eq]
theorem Holds.lt (a : Holds hp b vs) : b < hp.length := by obtain ⟨blk, h1, -⟩ := a; exact lget_lt h1
theorem Holds.new (hp : Heap) (e : Nat) (vs : List AVal) : Holds (hp ++ [some (blkOf e vs)]) hp.length vs := ⟨_, lget_last _ _, rfl, fun j _ => get_blk e vs j⟩
theorem Holds.keep (a : Holds hp b vs) (hk : hp'[b]? = hp[b]?) : Holds hp' b vs := by
  obtain ⟨blk, h1, h2⟩ := a
  exact ⟨blk, by rw [lget_of hk]; exact h1, h2⟩
theorem Holds.ext (a : Holds hp b vs) (x : Heap) : Holds (hp ++ x) b vs := a.keep (List.getElem?_append_left a.lt)
theorem Holds.by (a : Holds hp b vs) (k : Keep hp hp') : Holds hp' b vs := a.keep (k.2 b a.lt)
theorem Holds.one (a : Holds hp b vs) (hk : k < vs.length) : ldM ro ⟨hp, l, p⟩ true 1 (.p (some ⟨false, b, 0 + k⟩)) = some (vs.getD k und) := by
  obtain ⟨blk, h1, h2, h3⟩ := a
  rw [ld_heap rfl h1 (by omega), ← h3 k hk, Nat.zero_add]
theorem row_list {t : Tr} : ∀ (vs : List AVal) (i : Nat), (∀ j, j < vs.length → t.get (i + j) = vs.getD j und) → t.row i vs.length = vs
  | [], i, _ => rfl
  | v :: vs, i, h => by
    simp only [List.length_cons, Tr.row]
    rw [show t.get i = v by simpa using h 0 (by simp), row_list vs (i + 1) fun j hj => by have := h (j + 1) (by simp; omega); rw [show i + 1 + j = i + (j + 1) by omega, this]; simp]
theorem Holds.rd (a : Holds hp b vs) (hn : n = vs.length) : Go.Vm.rd ro hp false n ⟨false, b, 0⟩ = some (.agg vs) := by
  subst hn
  obtain ⟨blk, h1, h2, h3⟩ := a
  have hc : Nat.ble (0 + vs.length) blk.n = true := by rw [Nat.ble_eq]; omega
  simp only [Go.Vm.rd, rdB_heap h1, cond_false, hc, cond_true]
  rw [row_list vs 0 fun j hj => by rw [Nat.zero_add]; exact h3 j hj]
theorem Holds.all (a : Holds hp b vs) (hn : n = vs.length) : ldM ro ⟨hp, l, p⟩ false n (.p (some ⟨false, b, 0⟩)) = some (.agg vs) := by
  simp only [ldM, a.rd hn]
theorem Holds.allA (a : Holds hp b vs) (hn : n = vs.length) : ldA ro hp false n (.p (some ⟨false, b, 0⟩)) = some (.agg vs) := by
  have h1 : (false || Nat.blt b hp.length) = true := by
    have := a.lt
    simpa [Nat.blt_eq] using this
  simp only [ldA, h1, cond_true, a.rd hn]
theorem spliceGet (t : Tr) : ∀ (vs : List AVal) (i j : Nat), (t.splice i vs).get j = if i ≤ j ∧ j < i + vs.length then vs.getD (j - i) und else t.get j
  | [], i, j => by simp [Tr.splice]; intro h1 h2; omega
  | v :: vs, i, j => by
    rw [Tr.splice, spliceGet (t.set i v) vs (i + 1) j, get_set]
    by_cases e : i = j
    · subst e
      rw [if_neg (by omega), if_pos rfl, if_pos (by simp)]; simp
    · by_cases h2 : i ≤ j ∧ j < i + (v :: vs).length
      · have h3 : i + 1 ≤ j ∧ j < i + 1 + vs.length := by simp at h2; omega
        rw [if_pos h2, if_pos h3]
        obtain ⟨q, rfl⟩ : ∃ q, j = i + 1 + q := ⟨j - (i + 1), by omega⟩
        rw [show i + 1 + q - i = q + 1 by omega, show i + 1 + q - (i + 1) = q by omega]
        simp
      · have h3 : ¬ (i + 1 ≤ j ∧ j < i + 1 + vs.length) := by simp at h2; omega
        rw [if_neg h2, if_neg h3, if_neg e]
theorem wrH_all {blk : ABlk} (hb : lget hp b = some (some blk)) (hn : vs.length ≤ blk.n) (ho : ones vs = true) : wrH hp ⟨false, b, 0⟩ vs = some (hp.set b (some { blk with c := blk.c.splice 0 vs })) := by
  have : (Nat.ble (0 + vs.length) blk.n && ones vs) = true := by rw [ho, Bool.and_true, Nat.ble_eq]; omega
  simp only [wrH, cond_false, hb, this, cond_true, lset_eq]
/-- a block is written whole -/
theorem Holds.st {vs' : List AVal} {v : AVal} (a : Holds hp b vs) (hv : v.cells = vs') (hn : n = vs'.length) (hl : vs'.length = vs.length) (ho : ones vs' = true) (hL : h.length ≤ b) (kp : Keep h hp) :
    ∃ hp', stepM ro ⟨hp, h.length, h.length⟩ (.st n (.c (.p (some ⟨false, b, 0⟩))) (.c v)) = some (und, ⟨hp', h.length, h.length⟩) ∧ Holds hp' b vs' ∧ hp'.length = hp.length ∧ (∀ i, i ≠ b → hp'[i]? = hp[i]?) ∧ Keep h hp' := by
  obtain ⟨blk, h1, h2, h3⟩ := a
  subst hv hn
  have hw := wrH_all h1 (vs := v.cells) (by omega) ho
  refine ⟨hp.set b (some { blk with c := blk.c.splice 0 v.cells }), ?_, ⟨_, lget_set h1 _, by simpa using (h2.trans hl.symm), fun j hj => ?_⟩, by simp, fun i hi => List.getElem?_set_ne (Ne.symm hi), kp.set hL _⟩
  · have hbq : Nat.beq v.cells.length v.cells.length = true := Nat.beq_refl _
    have e : (cond (nonp v.cells) h.length h.length) = h.length := by cases nonp v.cells <;> rfl
    simp only [stepM, stepK, opd, st_st, hbq, cond_true, hw, St.mm, Nat.min_eq_left hL, e]
  · show (blk.c.splice 0 v.cells).get j = _
    rw [spliceGet, if_pos (by omega)]; simp
theorem al_ok (e : Nat) (z : List AVal) : stepM ro ⟨hp, l, p⟩ (.al e z) = some (.p (some ⟨false, hp.length, 0⟩), ⟨hp ++ [some (blkOf e z)], l, p⟩) := rfl
end

theorem ext0 (a : AVal) (l : List AVal) : evP .e (.ext 0 (.c (.tup (a :: l)))) = some a := rfl
theorem ext1 (a b : AVal) (l : List AVal) : evP .e (.ext 1 (.c (.tup (a :: b :: l)))) = some b := rfl
section
variable {ro : List ABlk} {h : Heap} {v : AVal}
theorem row_by {hp : Heap} {z : List Int} (a : IsRow ro h v z) (k : Keep h hp) : IsRow ro hp v z := by
  rw [take_eq k.1 k.2]; exact a.ext _
end

/-- one cell of a block is written -/
theorem Holds.set {ro : List ABlk} {h hp : Heap} {b k : Nat} {vs : List AVal} {v : AVal} (a : Holds hp b vs) (hk : k < vs.length) (hv : v.one = true) (hc : v.cells = [v]) (hn : nonp [v] = true) (hL : h.length ≤ b) (kp : Keep h hp) :
    ∃ hp', stepM ro ⟨hp, h.length, h.length⟩ (.st 1 (.c (.p (some ⟨false, b, 0 + k * 1⟩))) (.c v)) = some (und, ⟨hp', h.length, h.length⟩) ∧ Holds hp' b (vs.set k v) ∧ hp'.length = hp.length ∧ (∀ i, i ≠ b → hp'[i]? = hp[i]?) ∧ Keep h hp' := by
  obtain ⟨blk, h1, h2, h3⟩ := a
  have e : 0 + k * 1 = k := by omega
  refine ⟨hp.set b (some { blk with c := blk.c.set k v }), ?_, ⟨_, lget_set h1 _, by simpa using h2, fun j hj => ?_⟩, by simp, fun i hi => List.getElem?_set_ne (Ne.symm hi), kp.set hL _⟩
  · rw [e, st_heap h1 (by omega) hv hc hn, Nat.min_eq_left hL]
  · show (blk.c.set k v).get j = _
    rw [get_set]
    simp only [List.length_set] at hj
    by_cases e : k = j
    · subst e; simp [List.getD, hj]
    · rw [if_neg e, h3 j hj]
      simp [List.getD, List.getElem?_set_ne e]


/-- a loop whose state is known for each round -/
theorem loop_st {S R : Type} {b : S → Option (S ⊕ R)} (st : Nat → S) (n : Nat) (step : Nat → Option R) (r0 : R) (hout : b (st n) = some (.inr r0)) (hin : ∀ i, i < n → b (st i) = some (match step i with | some r => .inr r | none => .inl (st (i + 1)))) :
    ∀ (k i : Nat), i + k = n → loopX b (st i) = some ((firstS step k i).getD r0)
  | 0, i, hi => by
    simp only [Nat.add_zero] at hi
    subst hi
    exact loopX_out hout
  | k + 1, i, hi => by
    have h1 := hin i (by omega)
    unfold firstS
    cases hs : step i with
    | some r => rw [hs] at h1; exact loopX_out h1
    | none =>
      rw [hs] at h1
      exact loopX_on h1 (loop_st st n step r0 hout hin k (i + 1) (by omega))
/-- one that looks for something -/
theorem loop_if {S R : Type} {b : S → Option (S ⊕ R)} (st : Nat → S) (n : Nat) (P : Nat → Prop) [DecidablePred P] (r0 r1 : R) (hout : b (st n) = some (.inr r0)) (hin : ∀ i, i < n → P i → b (st i) = some (.inl (st (i + 1)))) (hno : ∀ i, i < n → ¬ P i → b (st i) = some (.inr r1)) :
    loopX b (st 0) = some (if (∀ i, i < n → P i) then r0 else r1) := by
  have := loop_st st n (fun i => if P i then none else some r1) r0 hout (fun i hi => by
    by_cases hp : P i
    · rw [if_pos hp]; exact hin i hi hp
    · rw [if_neg hp]; exact hno i hi hp) n 0 (by omega)
  rw [this]
  by_cases hall : ∀ i, i < n → P i
  · rw [if_pos hall, firstS_none.2 fun j _ h2 => by rw [if_pos (hall j (by omega))]]; rfl
  · rw [if_neg hall]
    cases hf : firstS (fun i => if P i then none else some r1) n 0 with
    | none =>
      refine absurd (fun i hi => ?_) hall
      have := firstS_none.1 hf i (by omega) (by omega)
      simpa using this
    | some r =>
      obtain ⟨j, -, -, h3, -⟩ := firstS_some hf
      by_cases hc : P j
      · rw [if_pos hc] at h3; cases h3
      · rw [if_neg hc] at h3; cases h3; rfl

theorem dT {p : Prop} [Decidable p] (h : p) : decide p = true := decide_eq_true h
theorem dF {p : Prop} [Decidable p] (h : ¬ p) : decide p = false := decide_eq_false h
theorem at_rowK {ro : List ABlk} {h : Heap} {v : AVal} {z : List Int} (hr : IsRow ro h v z) {i : Nat} (hi : i < z.length) : ∃ p, evP .e (.ixS 1 (.c v) (.c (.i .i64 (i : Int)))) = some p ∧ ∀ {hp : Heap} {l q : Nat}, Keep h hp → ldM ro ⟨hp, l, q⟩ true 1 p = some (.i .i64 (z.getD i 0)) ∧ ldA ro hp true 1 p = some (.i .i64 (z.getD i 0)) := by
  obtain ⟨p, h1, -⟩ := at_row (m := ⟨h, 0, 0⟩) rfl hr hi
  refine ⟨p, h1, fun {hp l q} k => ?_⟩
  obtain ⟨p', g1, g2, g3⟩ := at_row (m := ⟨hp, l, q⟩) rfl (row_by hr k) hi
  rw [h1] at g1; cases g1
  exact ⟨g2, g3⟩
theorem cp {F : Tab} {ro : List ABlk} {h : Heap} {f : Nat} {a : List AVal} {v : AVal} {l p : Nat} (e : callX F ro f a h = some (v, h, h.length, h.length)) (hl : l ≤ h.length) (hp : p ≤ h.length) : callM (callX F ro) ⟨h, l, p⟩ f a = some (v, ⟨h, l, p⟩) :=
  callM_pure e hl hp
theorem cp0 {F : Tab} {ro : List ABlk} {h : Heap} {f : Nat} {a : List AVal} {v : AVal} (e : callX F ro f a h = some (v, h, h.length, h.length)) : callM (callX F ro) ⟨h, h.length, h.length⟩ f a = some (v, ⟨h, h.length, h.length⟩) :=
  callM_pure e (Nat.le_refl _) (Nat.le_refl _)

end Go.Proofs.Ythcadkmfbgonjaa.T

/- Calls with plain arguments that answer a plain value, known beforehand: letters, places, what fits, comparisons. -/
open Go.Vm
set_option linter.unusedVariables false
namespace Go.Proofs.Ythcadkmfbgonjaa.T
open Go

def fnB : AVal → Bool
  | .fn _ [] [] => true
  | v => v.scalar
def plainB : AVal → Bool
  | .agg cs => cs.all fnB
  | v => fnB v
theorem vr_fnB {rl : Rl} {m m' : M} {v : AVal} {v' : Value} (hs : fnB v = true) (h : VR rl m v v') : VR rl m' v v' := by
  by_cases hv : ∃ f, v = .fn f [] []
  · obtain ⟨f, rfl⟩ := hv
    obtain ⟨a', c', rfl, l1, l2, -, -⟩ := h.inv_fn
    exact .fn _ _ _ _ _ l1 l2 (by simp) (by simp)
  · refine vr_scalar ?_ h
    unfold fnB at hs
    split at hs
    · rename_i f; exact absurd ⟨f, rfl⟩ hv
    · exact hs
theorem vr_plain {rl : Rl} {m m' : M} {v : AVal} {v' : Value} (hs : plainB v = true) (h : VR rl m v v') : VR rl m' v v' := by
  by_cases hv : ∃ cs, v = .agg cs
  · obtain ⟨cs, rfl⟩ := hv
    obtain ⟨cs', rfl, hl, h1⟩ := h.inv_agg
    exact .agg _ _ hl fun i u hu => vr_fnB (List.all_eq_true.1 hs u (List.mem_of_getElem? hu)) (h1 i u hu)
  · refine vr_fnB ?_ h
    unfold plainB at hs
    split at hs
    · rename_i cs; exact absurd ⟨cs, rfl⟩ hv
    · exact hs

theorem knownP_ok {E : Env} {call : Caller} (hc : CallOk E.bare call) {K : Nat → List AVal → Option AVal}
    (hK : ∀ f a v, K f a = some v → (∀ x ∈ a, plainB x = true) ∧ plainB v = true ∧ ∃ h' lw lp, call f a [] = some (v, h', lw, lp)) : CallOk E (knownS K) := by
  intro f args h u h2 lw2 lp2 hcl
  unfold knownS at hcl
  split at hcl
  · rename_i v hv
    obtain ⟨hs, hvs, h', lw, lp, h1⟩ := hK _ _ _ hv
    simp only [Option.some.injEq, Prod.mk.injEq] at hcl
    obtain ⟨rfl, rfl, rfl, rfl⟩ := hcl
    obtain ⟨c1, c2⟩ := hc _ _ _ _ _ _ _ h1
    refine ⟨c1, fun m w args' hr hl => ?_⟩
    have hr0 : HR E.bare [] [] w := ⟨hr.below, rfl, by simp, fun i b r K hl => by simp [Live] at hl, fun i j b b' r K K' hl => by simp [Live] at hl⟩
    refine Calls.mono (c2 [] w args' hr0 ⟨hl.1, fun i x hx => vr_plain (hs x (List.mem_of_getElem? hx)) (hl.2 i x hx)⟩) fun e w' hq => ?_
    obtain ⟨v', rfl, m', hvr, T⟩ := hq
    refine ⟨v', rfl, m, vr_plain hvs hvr, ?_⟩
    have keep : ∀ r, r < w.heap.size → w'.heap[r]? = w.heap[r]? := fun r hlt => T.keepo r hlt fun i b K hl => by simp [Live] at hl
    have lt : ∀ i b r K, Live m h i b r K → r < w.heap.size := fun i b r K hl => by
      exact hr.lt hl
    refine ⟨⟨[], by simp⟩, ⟨T.hr.below, hr.len, hr.real, fun i b r K hl => ?_, hr.inj⟩, T.size, Nat.le_refl _, Nat.le_refl _, fun i _ _ => ⟨rfl, fun b r K hl => keep r (lt _ _ _ _ hl)⟩,
      fun i _ _ b' hb => ⟨b', hb, rfl, ⟨rfl, rfl⟩, fun _ _ => .inr rfl⟩, fun r hlt _ => keep r hlt, fun i b r K hl _ => ⟨i, b, K, hl⟩⟩
    obtain ⟨hB, hc⟩ := hr.blk i b r K hl
    exact ⟨hB, by rw [keep r (lt _ _ _ _ hl)]; exact hc⟩
  · cases hcl

def cmpI (a b : Int) : Int := if a < b then -1 else if b < a then 1 else 0
def K1 (f : Nat) (args : List AVal) : Option AVal :=
  cond (Nat.beq f 76) (match args with
    | [.i .u8 x] => some (.b (decide (97 ≤ x ∧ x ≤ 122)))
    | _ => none) <|
  cond (Nat.beq f 77) (match args with
    | [.i .i64 a, .i .i64 x, .i .i64 b] => some (.b (decide (a ≤ x ∧ x ≤ b)))
    | _ => none) <|
  cond (Nat.beq f 92) (match args with
    | [] => some (.agg [.fn 96 [] [], .fn 96 [] [], .fn 96 [] [], .fn 96 [] [], .fn 97 [] [], .fn 96 [] [], .fn 96 [] [], .fn 98 [] [], .fn 96 [] []])
    | _ => none) <|
  cond (Nat.beq f 100) (match args with
    | [.i .i64 a, .i .i64 b] => some (.i .i64 (cmpI a b))
    | _ => none) <|
  cond (Nat.beq f 101) (match args with
    | [.i .u8 a, .i .u8 b] => some (.i .i64 (cmpI a b))
    | _ => none) none
abbrev F0 : Tab := ⟨F, noCall⟩
theorem beqE {f k : Nat} (h : Nat.beq f k = true) : f = k := Nat.eq_of_beq_eq_true h

section
variable {ov : Caller} {ro : List ABlk} {h : Heap}
theorem letter0 (x : Int) (ho : ov 76 [.i .u8 x] h = none) : callX ⟨F, ov⟩ ro 76 [.i .u8 x] h = some (.b (decide (97 ≤ x ∧ x ≤ 122)), h, h.length, h.length) := by
  refine g76_ok (meansX_ok _ ro) ho ?_
  unfold g76
  simp only [forceB_eq, ltI_eq, tupA]
  have e : decide (97 ≤ x ∧ x ≤ 122) = (!decide (x < 97) && !decide (122 < x)) := by rw [Bool.eq_iff_iff]; simp
  rw [e]
  cases decide (x < 97) <;> cases decide (122 < x) <;> exact fin_pure rfl
theorem from0 (a x b : Int) (ho : ov 77 [.i .i64 a, .i .i64 x, .i .i64 b] h = none) : callX ⟨F, ov⟩ ro 77 [.i .i64 a, .i .i64 x, .i .i64 b] h = some (.b (decide (a ≤ x ∧ x ≤ b)), h, h.length, h.length) := by
  refine g77_ok (meansX_ok _ ro) ho ?_
  unfold g77
  simp only [forceB_eq, ltI_eq, tupA]
  have e : decide (a ≤ x ∧ x ≤ b) = (!decide (x < a) && !decide (b < x)) := by rw [Bool.eq_iff_iff]; simp
  rw [e]
  cases decide (x < a) <;> cases decide (b < x) <;> exact fin_pure rfl
theorem nan0 (x : Int) (ho : ov 102 [.i .i64 x] h = none) : callX ⟨F, ov⟩ ro 102 [.i .i64 x] h = some (.b false, h, h.length, h.length) := by
  refine g102_ok (meansX_ok _ ro) ho ?_
  unfold g102
  simp only [forceB_eq, eqI_eq, tupA, beq_self_eq_true, Bool.not_true]
  exact fin_pure rfl
theorem nanb0 (x : Int) (ho : ov 103 [.i .u8 x] h = none) : callX ⟨F, ov⟩ ro 103 [.i .u8 x] h = some (.b false, h, h.length, h.length) := by
  refine g103_ok (meansX_ok _ ro) ho ?_
  unfold g103
  simp only [forceB_eq, eqI_eq, tupA, beq_self_eq_true, Bool.not_true]
  exact fin_pure rfl
theorem cmp0 (a b : Int) (ho : ov 100 [.i .i64 a, .i .i64 b] h = none) (h1 : ∀ x, ov 102 [.i .i64 x] h = none) : callX ⟨F, ov⟩ ro 100 [.i .i64 a, .i .i64 b] h = some (.i .i64 (cmpI a b), h, h.length, h.length) := by
  refine g100_ok (meansX_ok _ ro) ho ?_
  unfold g100
  simp only [meansX_call, cp0 (nan0 (ro := ro) a (h1 a)), cp0 (nan0 (ro := ro) b (h1 b)), bindP_some, asB_b, cond_false, forceB_eq, ltI_eq, tupA]
  unfold cmpI
  by_cases c1 : a < b
  · simp only [c1, decide_true, cond_true, if_true]; exact fin_pure rfl
  · by_cases c2 : b < a
    · simp only [c1, c2, decide_true, decide_false, cond_true, cond_false, if_true, if_false]; exact fin_pure rfl
    · simp only [c1, c2, decide_false, cond_false, if_false]; exact fin_pure rfl
theorem cmpb0 (a b : Int) (ho : ov 101 [.i .u8 a, .i .u8 b] h = none) (h1 : ∀ x, ov 103 [.i .u8 x] h = none) : callX ⟨F, ov⟩ ro 101 [.i .u8 a, .i .u8 b] h = some (.i .i64 (cmpI a b), h, h.length, h.length) := by
  refine g101_ok (meansX_ok _ ro) ho ?_
  unfold g101
  simp only [meansX_call, cp0 (nanb0 (ro := ro) a (h1 a)), cp0 (nanb0 (ro := ro) b (h1 b)), bindP_some, asB_b, cond_false, forceB_eq, ltI_eq, tupA]
  unfold cmpI
  by_cases c1 : a < b
  · simp only [c1, decide_true, cond_true, if_true]; exact fin_pure rfl
  · by_cases c2 : b < a
    · simp only [c1, c2, decide_true, decide_false, cond_true, cond_false, if_true, if_false]; exact fin_pure rfl
    · simp only [c1, c2, decide_false, cond_false, if_false]; exact fin_pure rfl
end
def isA (o : Option (AVal × Heap × Nat × Nat)) : Bool := match o with
  | some (.agg [.fn 96 [] [], .fn 96 [] [], .fn 96 [] [], .fn 96 [] [], .fn 97 [] [], .fn 96 [] [], .fn 96 [] [], .fn 98 [] [], .fn 96 [] []], _) => true
  | _ => false
theorem tab0 : ∃ h lw lp, callX F0 [] 92 [] [] = some (.agg [.fn 96 [] [], .fn 96 [] [], .fn 96 [] [], .fn 96 [] [], .fn 97 [] [], .fn 96 [] [], .fn 96 [] [], .fn 98 [] [], .fn 96 [] []], h, lw, lp) := by
  have h : ∃ r, callA F0 [] (exec F0 [] 60) 92 [] [] = some r ∧ isA (some r) = true := by
    have h1 : isA (callA F0 [] (exec F0 [] 60) 92 [] []) = true := by decide +kernel
    cases hc : callA F0 [] (exec F0 [] 60) 92 [] [] with
    | none => rw [hc] at h1; cases h1
    | some r => rw [hc] at h1; exact ⟨r, rfl, h1⟩
  obtain ⟨⟨v, hp, lw, lp⟩, h1, h2⟩ := h
  unfold isA at h2
  split at h2
  · rename_i e
    cases e
    exact ⟨_, _, _, callX_some.2 ⟨60, h1⟩⟩
  · cases h2

theorem K1_ok : ∀ f a v, K1 f a = some v → (∀ x ∈ a, plainB x = true) ∧ plainB v = true ∧ ∃ h' lw lp, callX F0 [] f a [] = some (v, h', lw, lp) := by
  intro f a v hK
  unfold K1 at hK
  cases e1 : Nat.beq f 76
  · cases e2 : Nat.beq f 77
    · cases e3 : Nat.beq f 92
      · cases e4 : Nat.beq f 100
        · cases e5 : Nat.beq f 101
          · simp only [e1, e2, e3, e4, e5, cond_false] at hK; cases hK
          · simp only [e1, e2, e3, e4, e5, cond_false, cond_true] at hK
            obtain rfl := beqE e5
            split at hK
            · cases hK; exact ⟨by simp [plainB, fnB, AVal.scalar], rfl, _, _, _, cmpb0 _ _ rfl fun _ => rfl⟩
            · cases hK
        · simp only [e1, e2, e3, e4, cond_false, cond_true] at hK
          obtain rfl := beqE e4
          split at hK
          · cases hK; exact ⟨by simp [plainB, fnB, AVal.scalar], rfl, _, _, _, cmp0 _ _ rfl fun _ => rfl⟩
          · cases hK
      · simp only [e1, e2, e3, cond_false, cond_true] at hK
        obtain rfl := beqE e3
        split at hK
        · cases hK; exact ⟨by simp, by decide, tab0⟩
        · cases hK
    · simp only [e1, e2, cond_false, cond_true] at hK
      obtain rfl := beqE e2
      split at hK
      · cases hK; exact ⟨by simp [plainB, fnB, AVal.scalar], rfl, _, _, _, from0 _ _ _ rfl⟩
      · cases hK
  · simp only [e1, cond_true] at hK
    obtain rfl := beqE e1
    split at hK
    · cases hK; exact ⟨by simp [plainB, fnB, AVal.scalar], rfl, _, _, _, letter0 _ rfl⟩
    · cases hK
theorem O1_ok {E : Env} (hE : E.Ok) (hm : E.P.follows .mixedOrders = true) (hF : FOk E.P F) : CallOk E (knownS K1) :=
  knownP_ok (callX_sound (E := E.bare) (Env.bare_ok hE) hm (F := F0) hF noCall_ok) K1_ok

/-- or: the first that is not 0 -/
def orI (a b c : Int) : Int := if a ≠ 0 then a else if b ≠ 0 then b else c
theorem or0 {ov : Caller} {ro : List ABlk} {h : Heap} {v : AVal} {a b c : Int} (hr : IsRow ro h v [a, b, c]) (ho : ov 99 [v] h = none) : callX ⟨F, ov⟩ ro 99 [v] h = some (.i .i64 (orI a b c), h, h.length, h.length) := by
  refine g99_ok (meansX_ok _ ro) ho ?_
  unfold g99
  simp only [len_row hr, bindO_some, asI_i, meansX_loop]
  have at' : ∀ i : Nat, i < 3 → ∃ p, evP .e (.ixS 1 (.c v) (.c (.i .i64 (i : Int)))) = some p ∧ ldM ro ⟨h, h.length, h.length⟩ true 1 p = some (.i .i64 ([a, b, c].getD i 0)) := fun i hi => by
    obtain ⟨p, h1, h2⟩ := at_rowK hr (i := i) hi
    exact ⟨p, h1, (h2 (Keep.refl h)).1⟩
  have step : ∀ i : Nat, i < 3 → g99_b0 (meansX ⟨F, ov⟩ ro) ro v 3 ⟨h, h.length, h.length⟩ (i : Int) = some (match (if [a, b, c].getD i 0 ≠ 0 then some ([a, b, c].getD i 0) else none) with | some r => .inr (.inr r) | none => .inl ((i + 1 : Nat) : Int)) := fun i hi => by
    obtain ⟨p, h1, h2⟩ := at' i hi
    have e : decide ((i : Int) < 3) = true := by simp; omega
    simp only [g99_b0, forceB_eq, ltI_eq, e, cond_true, h1, bindO_some, h2, asI_i, eqI_eq, forceI_eq]
    by_cases hz : [a, b, c].getD i 0 = 0
    · rw [hz]; simp only [beq_self_eq_true, Bool.not_true, cond_false]
      rw [wr_id' (by omega) (by omega)]
      rfl
    · have : ([a, b, c].getD i 0 == 0) = false := by simpa using hz
      rw [this, if_pos hz]; rfl
  have out : g99_b0 (meansX ⟨F, ov⟩ ro) ro v 3 ⟨h, h.length, h.length⟩ ((3 : Nat) : Int) = some (.inr (.inl ())) := by
    simp only [g99_b0, forceB_eq, ltI_eq]; simp
  have hl := loop_st (b := fun s => g99_b0 (meansX ⟨F, ov⟩ ro) ro v 3 ⟨h, h.length, h.length⟩ s) (fun i => (i : Int)) 3 (fun i => if [a, b, c].getD i 0 ≠ 0 then some (.inr ([a, b, c].getD i 0)) else none) (.inl ()) out (fun i hi => by
    rw [step i hi]
    by_cases hz : [a, b, c].getD i 0 = 0
    · rw [if_neg (by simpa using hz), if_neg (by simpa using hz)]
    · rw [if_pos hz, if_pos hz]) 3 0 rfl
  have e0 : ((0 : Nat) : Int) = 0 := rfl
  have e3 : (([a, b, c].length : Nat) : Int) = 3 := rfl
  simp only [e0] at hl
  rw [e3, hl]
  simp only [firstS, Nat.reduceAdd, List.getD_cons_zero, List.getD_cons_succ]
  unfold orI
  by_cases ha : a = 0
  · by_cases hb : b = 0
    · by_cases hc : c = 0
      · simp [ha, hb, hc, bindO, tupA]; exact fin_pure rfl
      · simp [ha, hb, hc, bindO, tupA]; exact fin_pure rfl
    · simp [ha, hb, bindO, tupA]; exact fin_pure rfl
  · simp [ha, bindO, tupA]; exact fin_pure rfl
end Go.Proofs.Ythcadkmfbgonjaa.T

/- What fits, and changes turned one against the other, known beforehand: reckoned in empty memory. -/
open Go.Vm
set_option linter.unusedVariables false
namespace Go.Proofs.Ythcadkmfbgonjaa.T
open Go

abbrev Ch.v (c : Ch) : AVal := .agg c.vs
abbrev Fa : Tab := ⟨F, knownS K1⟩
theorem knownA {K : Nat → List AVal → Option AVal} {f : Nat} {a : List AVal} {v : AVal} (h : K f a = some v) (hp : Heap) : knownS K f a hp = some (v, hp, hp.length, hp.length) := by
  unfold knownS; rw [h]
theorem callA1 {ro : List ABlk} {hp : Heap} {f : Nat} {a : List AVal} {v : AVal} (h : K1 f a = some v) : callX Fa ro f a hp = some (v, hp, hp.length, hp.length) := callX_ov (knownA h hp)

theorem seq_ch (ng : Bool) (c d : Ch) : evP .e (.seq ng [(0, false), (1, false), (2, false), (3, false)] (.c c.v) (.c d.v)) = some (.b (if ng then !decide (c = d) else decide (c = d))) := by
  have e : decide (c = d) = (decide (c.k = d.k) && (decide (c.a = d.a) && (decide (c.l = d.l) && decide (c.w = d.w)))) := by
    cases c; cases d; simp only [Ch.mk.injEq, Bool.decide_and]
  have hb : ∀ a b : Int, eqI a b = decide (a = b) := fun a b => by rw [eqI_eq]; rfl
  have hk : ∀ k, kEq k k = true := fun k => (kEq_iff k k).2 rfl
  simp only [evP, ev_seq, opd, Ch.vs, seqA, lget, hb, hk, cond_true]
  rw [e]
  cases decide (c.k = d.k) <;> cases decide (c.a = d.a) <;> cases decide (c.l = d.l) <;> cases decide (c.w = d.w) <;> cases ng <;> rfl

def fitP (c : Ch) (n : Int) : Bool :=
  if c.k = 1 then (decide (0 ≤ c.a ∧ c.a ≤ n) && decide (97 ≤ c.l ∧ c.l ≤ 122)) && decide (0 ≤ c.w ∧ c.w ≤ 4)
  else if c.k = 2 then (decide (0 ≤ c.a ∧ c.a ≤ wr .i64 (n - 1)) && decide (c.l = 0)) && decide (c.w = 0)
  else decide (c = ⟨0, 0, 0, 0⟩)
def fitR (c : Ch) (n : Int) : Bool :=
  if c.k = 0 then decide (c = ⟨0, 0, 0, 0⟩)
  else if c.k = 1 then decide (0 ≤ c.a ∧ c.a ≤ n ∧ 97 ≤ c.l ∧ c.l ≤ 122 ∧ 0 ≤ c.w ∧ c.w < 5)
  else if c.k = 2 then decide (0 ≤ c.a ∧ c.a < n ∧ c.l = 0 ∧ c.w = 0) else false
/- reading boxed changes in concrete memory -/
section
variable {ro : List ABlk} {l p : Nat} {x : Heap} {c : Ch}
theorem rd_all {b : Nat} (h : lget x b = some (some (blkOf 24 c.vs))) : ldM ro ⟨x, l, p⟩ false 4 (.p (some ⟨false, b, 0⟩)) = some c.v := by
  simp only [ldM, rd, rdB, cond_false, h]; rfl
theorem rd_k {b : Nat} (h : lget x b = some (some (blkOf 24 c.vs))) : ldM ro ⟨x, l, p⟩ true 1 (.p (some ⟨false, b, 0⟩)) = some (.i .i64 c.k) := by
  simp only [ldM, rd, rdB, cond_false, h]; rfl
theorem rd_a {b : Nat} (h : lget x b = some (some (blkOf 24 c.vs))) : ldM ro ⟨x, l, p⟩ true 1 (.p (some ⟨false, b, 1⟩)) = some (.i .i64 c.a) := by
  simp only [ldM, rd, rdB, cond_false, h]; rfl
theorem rd_l {b : Nat} (h : lget x b = some (some (blkOf 24 c.vs))) : ldM ro ⟨x, l, p⟩ true 1 (.p (some ⟨false, b, 2⟩)) = some (.i .u8 c.l) := by
  simp only [ldM, rd, rdB, cond_false, h]; rfl
theorem rd_w {b : Nat} (h : lget x b = some (some (blkOf 24 c.vs))) : ldM ro ⟨x, l, p⟩ true 1 (.p (some ⟨false, b, 3⟩)) = some (.i .i64 c.w) := by
  simp only [ldM, rd, rdB, cond_false, h]; rfl
end
theorem fa (b k : Nat) : evP .e (.faddr k (.c (.p (some ⟨false, b, 0⟩)))) = some (.p (some ⟨false, b, 0 + k⟩)) := rfl

/- steps that the kernel sees as such -/
theorem bindP_of {β : Type} {o : Option (AVal × Mm)} {v : AVal} {m : Mm} {f : AVal → Mm → Option β} (h : o = some (v, m)) : bindP o f = f v m := by rw [h]; rfl
theorem bindO_of {α β : Type} {o : Option α} {v : α} {f : α → Option β} (h : o = some v) : bindO o f = f v := by rw [h]; rfl
theorem pS {β : Type} (v : AVal) (m : Mm) (f : AVal → Mm → Option β) : bindP (some (v, m)) f = f v m := bindP_of (Eq.trans rfl rfl)
theorem oS {α β : Type} (v : α) (f : α → Option β) : bindO (some v) f = f v := bindO_of (Eq.trans rfl rfl)
theorem fS (b k : Nat) : evP .e (.faddr k (.c (.p (some ⟨false, b, 0⟩)))) = some (.p (some ⟨false, b, k⟩)) := by rw [fa, Nat.zero_add]
theorem cT {α : Type} (a b : α) : cond true a b = a := by rw [cond_true]
theorem cF {α : Type} (a b : α) : cond false a b = b := by rw [cond_false]
theorem fits0 (c : Ch) (n : Int) : ∃ h lw lp, callX Fa [] 62 [c.v, .i .i64 n] [] = some (.b (fitP c n), h, lw, lp) := by
  suffices h : ∃ r : AVal × Heap × Nat × Nat, g62 (meansX Fa []) [] c.v n ⟨[], 0, 0⟩ = some r ∧ r.1 = .b (fitP c n) by
    obtain ⟨⟨v, hp, lw, lp⟩, h1, h2⟩ := h
    cases h2
    exact ⟨_, _, _, g62_ok (meansX_ok _ _) rfl h1⟩
  unfold g62
  have s1 : stepM [] ⟨[], 0, 0⟩ (.bx 24 4 (.c c.v)) = some (.p (some ⟨false, 0, 0⟩), ⟨[some (blkOf 24 c.vs)], 0, 0⟩) := rfl
  have hb : lget [some (blkOf 24 c.vs)] 0 = some (some (blkOf 24 c.vs)) := rfl
  have k77 : ∀ a x b, callM (callX Fa []) ⟨[some (blkOf 24 c.vs)], 0, 0⟩ 77 [.i .i64 a, .i .i64 x, .i .i64 b] = some (.b (decide (a ≤ x ∧ x ≤ b)), ⟨[some (blkOf 24 c.vs)], 0, 0⟩) := fun a x b => cp (callA1 rfl) (Nat.zero_le _) (Nat.zero_le _)
  have k76 : ∀ x, callM (callX Fa []) ⟨[some (blkOf 24 c.vs)], 0, 0⟩ 76 [.i .u8 x] = some (.b (decide (97 ≤ x ∧ x ≤ 122)), ⟨[some (blkOf 24 c.vs)], 0, 0⟩) := fun x => cp (callA1 rfl) (Nat.zero_le _) (Nat.zero_le _)
  have hz : (fillA [(AVal.i IntKind.i64 0), (AVal.i IntKind.i64 0), (AVal.i IntKind.u8 0), (AVal.i IntKind.i64 0)] [((0, 1), (.i .i64 0))]).map AVal.agg = some (Ch.v ⟨0, 0, 0, 0⟩) := rfl
  have sq : evP .e (.seq false [(0, false), (1, false), (2, false), (3, false)] (.c c.v) (.c (Ch.v ⟨0, 0, 0, 0⟩))) = some (.b (decide (c = ⟨0, 0, 0, 0⟩))) := seq_ch false c _
  simp only [s1, bindP_some, fa, bindO_some, Nat.zero_add, rd_k hb, rd_a hb, rd_l hb, rd_w hb, rd_all hb, asI_i, forceB_eq, forceI_eq, eqI_eq, meansX_call, k77, k76, asB_b, hz, sq, tupA]
  unfold fitP
  by_cases e1 : c.k = 1
  · rw [if_pos e1]
    have : (c.k == 1) = true := by simpa using e1
    simp only [this, cond_true]
    cases decide (0 ≤ c.a ∧ c.a ≤ n)
    · exact ⟨_, fin_keep (h := []) ⟨by simp, by simp⟩ rfl, rfl⟩
    · simp only [cond_true, bindO_some]
      cases decide (97 ≤ c.l ∧ c.l ≤ 122)
      · exact ⟨_, fin_keep (h := []) ⟨by simp, by simp⟩ rfl, rfl⟩
      · simp only [cond_true]
        exact ⟨_, fin_keep (h := []) ⟨by simp, by simp⟩ rfl, rfl⟩
  · rw [if_neg e1]
    have : (c.k == 1) = false := by simpa using e1
    simp only [this, cond_false]
    by_cases e2 : c.k = 2
    · rw [if_pos e2]
      have : (c.k == 2) = true := by simpa using e2
      simp only [this, cond_true]
      cases decide (0 ≤ c.a ∧ c.a ≤ wr .i64 (n - 1))
      · exact ⟨_, fin_keep (h := []) ⟨by simp, by simp⟩ rfl, rfl⟩
      · simp only [cond_true, bindO_some]
        have e3 : (c.l == 0) = decide (c.l = 0) := rfl
        have e4 : (c.w == 0) = decide (c.w = 0) := rfl
        rw [e3, e4]
        cases decide (c.l = 0)
        · exact ⟨_, fin_keep (h := []) ⟨by simp, by simp⟩ rfl, rfl⟩
        · exact ⟨_, fin_keep (h := []) ⟨by simp, by simp⟩ rfl, rfl⟩
    · rw [if_neg e2]
      have : (c.k == 2) = false := by simpa using e2
      simp only [this, cond_false]
      exact ⟨_, fin_keep (h := []) ⟨by simp, by simp⟩ rfl, rfl⟩
theorem fitsR0 (c : Ch) (n : Int) : ∃ h lw lp, callX Fa [] 59 [c.v, .i .i64 n] [] = some (.b (fitR c n), h, lw, lp) := by
  suffices h : ∃ r : AVal × Heap × Nat × Nat, g59 (meansX Fa []) [] c.v n ⟨[], 0, 0⟩ = some r ∧ r.1 = .b (fitR c n) by
    obtain ⟨⟨v, hp, lw, lp⟩, h1, h2⟩ := h
    cases h2
    exact ⟨_, _, _, g59_ok (meansX_ok _ _) rfl h1⟩
  unfold g59
  have s1 : stepM [] ⟨[], 0, 0⟩ (.bx 24 4 (.c c.v)) = some (.p (some ⟨false, 0, 0⟩), ⟨[some (blkOf 24 c.vs)], 0, 0⟩) := rfl
  have hb : lget [some (blkOf 24 c.vs)] 0 = some (some (blkOf 24 c.vs)) := rfl
  have hz : (fillA [(AVal.i IntKind.i64 0), (AVal.i IntKind.i64 0), (AVal.i IntKind.u8 0), (AVal.i IntKind.i64 0)] []).map AVal.agg = some (Ch.v ⟨0, 0, 0, 0⟩) := rfl
  have sq : evP .e (.seq false [(0, false), (1, false), (2, false), (3, false)] (.c c.v) (.c (Ch.v ⟨0, 0, 0, 0⟩))) = some (.b (decide (c = ⟨0, 0, 0, 0⟩))) := seq_ch false c _
  simp only [s1, bindP_some, fa, bindO_some, Nat.zero_add, rd_k hb, rd_a hb, rd_l hb, rd_w hb, rd_all hb, asI_i, forceB_eq, eqI_eq, ltI_eq, asB_b, hz, sq, tupA]
  have fin : ∀ b : Bool, finM ([] : Heap).length (.b b) ⟨[some (blkOf 24 c.vs)], 0, 0⟩ = some (.b b, [], 0, 0) := fun b => fin_keep (h := []) ⟨by simp, by simp⟩ rfl
  have hn : ([] : Heap).length = 0 := rfl
  rw [hn] at fin
  unfold fitR
  by_cases e0 : c.k = 0
  · rw [if_pos e0]
    have : (c.k == 0) = true := by simpa using e0
    simp only [this, cond_true]
    exact ⟨_, fin _, rfl⟩
  rw [if_neg e0]
  have : (c.k == 0) = false := by simpa using e0
  simp only [this, cond_false]
  by_cases e1 : c.k = 1
  · rw [if_pos e1]
    have : (c.k == 1) = true := by simpa using e1
    simp only [this, cond_true]
    have e : decide (0 ≤ c.a ∧ c.a ≤ n ∧ 97 ≤ c.l ∧ c.l ≤ 122 ∧ 0 ≤ c.w ∧ c.w < 5) = (!decide (c.a < 0) && (!decide (n < c.a) && (!decide (c.l < 97) && (!decide (122 < c.l) && (!decide (c.w < 0) && decide (c.w < 5)))))) := by rw [Bool.eq_iff_iff]; simp
    rw [e]
    cases decide (c.a < 0) <;> cases decide (n < c.a) <;> cases decide (c.l < 97) <;> cases decide (122 < c.l) <;> cases decide (c.w < 0) <;> exact ⟨_, fin _, rfl⟩
  · rw [if_neg e1]
    have : (c.k == 1) = false := by simpa using e1
    simp only [this, cond_false]
    by_cases e2 : c.k = 2
    · rw [if_pos e2]
      have : (c.k == 2) = true := by simpa using e2
      simp only [this, cond_true]
      have e : decide (0 ≤ c.a ∧ c.a < n ∧ c.l = 0 ∧ c.w = 0) = (!decide (c.a < 0) && (decide (c.a < n) && ((c.l == 0) && (c.w == 0)))) := by rw [Bool.eq_iff_iff]; simp
      rw [e]
      cases decide (c.a < 0) <;> cases decide (c.a < n) <;> cases (c.l == 0) <;> exact ⟨_, fin _, rfl⟩
    · rw [if_neg e2]
      have : (c.k == 2) = false := by simpa using e2
      simp only [this, cond_false]
      exact ⟨_, fin _, rfl⟩
end Go.Proofs.Ythcadkmfbgonjaa.T

/- One change turned against another, by the program and by the reference: the same. -/
open Go.Vm
set_option linter.unusedVariables false
namespace Go.Proofs.Ythcadkmfbgonjaa.T
open Go

def upC (c : Ch) : Ch := ⟨c.k, wr .i64 (c.a + 1), c.l, c.w⟩
def putP (c o : Ch) : Ch := if o.a < c.a ∨ (o.a = c.a ∧ (o.w < c.w ∨ (o.w = c.w ∧ o.l < c.l))) then upC c else c
def hideP (c o : Ch) : Ch := if o.a ≤ c.a then upC c else c
/-- a change turned against another one -/
def turnP (c o : Ch) : Ch := if o.k ≠ 1 ∨ c.k = 0 then c else if o.a < c.a ∨ (o.a = c.a ∧ (c.k = 2 ∨ o.w < c.w ∨ (o.w = c.w ∧ o.l < c.l))) then upC c else c

abbrev zC : List AVal := [(AVal.i IntKind.i64 0), (AVal.i IntKind.i64 0), (AVal.i IntKind.u8 0), (AVal.i IntKind.i64 0)]
abbrev X0 (c o : Ch) : Heap := [some (blkOf 24 c.vs), some (blkOf 24 o.vs), some (blkOf 24 zC)]
/-- the result written, and given -/
theorem out0 (a o r : Ch) : ∃ hp, stepM [] ⟨X0 a o, 0, 0⟩ (.st 4 (.c (.p (some ⟨false, 2, 0⟩))) (.c r.v)) = some (und, ⟨hp, 0, 0⟩) ∧ ldM [] ⟨hp, 0, 0⟩ false 4 (.p (some ⟨false, 2, 0⟩)) = some r.v := ⟨_, rfl, rfl⟩
theorem fin0 (r : Ch) (hp : Heap) : finM ([] : Heap).length r.v ⟨hp, 0, 0⟩ = some (r.v, [], 0, 0) := fin_keep (h := []) ⟨by simp, by simp⟩ rfl
abbrev Y0 (c o : Ch) (x : Int) : Heap := [some { blkOf 24 c.vs with c := (blkOf 24 c.vs).c.set 1 (.i .i64 x) }, some (blkOf 24 o.vs), some (blkOf 24 zC)]
theorem set0a (c o : Ch) (x : Int) : stepM [] ⟨X0 c o, 0, 0⟩ (.st 1 (.c (.p (some ⟨false, 0, 1⟩))) (.c (.i .i64 x))) = some (und, ⟨Y0 c o x, 0, 0⟩) := by
  have hb : lget (X0 c o) 0 = some (some (blkOf 24 c.vs)) := rfl
  rw [st_heap hb (show 1 < 4 by decide) rfl rfl rfl]
  rfl
theorem set0b (c o : Ch) (x : Int) : ldM [] ⟨Y0 c o x, 0, 0⟩ false 4 (.p (some ⟨false, 0, 0⟩)) = some (Ch.v ⟨c.k, x, c.l, c.w⟩) := by
  have hb : rdB [] (Y0 c o x) ⟨false, 0, 0⟩ = some { blkOf 24 c.vs with c := (blkOf 24 c.vs).c.set 1 (.i .i64 x) } := rfl
  simp only [ldM, rd, hb, cond_false]
  show (cond (Nat.ble (0 + 4) 4) (some (AVal.agg (((blkOf 24 c.vs).c.set 1 (.i .i64 x)).row 0 4))) none) = _
  simp only [Tr.row, get_set, get_blk, Ch.v, Ch.vs]
  rfl
theorem set0c (c o : Ch) (x : Int) (r : Ch) : ∃ hp, stepM [] ⟨Y0 c o x, 0, 0⟩ (.st 4 (.c (.p (some ⟨false, 2, 0⟩))) (.c r.v)) = some (und, ⟨hp, 0, 0⟩) ∧ ldM [] ⟨hp, 0, 0⟩ false 4 (.p (some ⟨false, 2, 0⟩)) = some r.v := by
  have hb : Holds (Y0 c o x) 2 zC := ⟨blkOf 24 zC, rfl, rfl, fun j _ => get_blk 24 zC j⟩
  obtain ⟨hp, h1, h2, -⟩ := hb.st (ro := []) (h := []) (v := r.v) (vs' := r.vs) (n := 4) rfl rfl rfl rfl (by simp) ⟨by simp, by simp⟩
  exact ⟨hp, h1, h2.all rfl⟩
theorem set0 (c o : Ch) (x : Int) : stepM [] ⟨X0 c o, 0, 0⟩ (.st 1 (.c (.p (some ⟨false, 0, 1⟩))) (.c (.i .i64 x))) = some (und, ⟨Y0 c o x, 0, 0⟩) ∧
    ldM [] ⟨Y0 c o x, 0, 0⟩ false 4 (.p (some ⟨false, 0, 0⟩)) = some (Ch.v ⟨c.k, x, c.l, c.w⟩) ∧
    ∀ r : Ch, ∃ hp, stepM [] ⟨Y0 c o x, 0, 0⟩ (.st 4 (.c (.p (some ⟨false, 2, 0⟩))) (.c r.v)) = some (und, ⟨hp, 0, 0⟩) ∧ ldM [] ⟨hp, 0, 0⟩ false 4 (.p (some ⟨false, 2, 0⟩)) = some r.v :=
  ⟨set0a c o x, set0b c o x, set0c c o x⟩

theorem turnR0 (c o : Ch) : ∃ h lw lp, callX Fa [] 67 [c.v, o.v] [] = some ((turnP c o).v, h, lw, lp) := by
  suffices h : ∃ r : AVal × Heap × Nat × Nat, g67 (meansX Fa []) [] c.v o.v ⟨[], 0, 0⟩ = some r ∧ r.1 = (turnP c o).v by
    obtain ⟨⟨v, hp, lw, lp⟩, h1, h2⟩ := h
    cases h2
    exact ⟨_, _, _, g67_ok (meansX_ok _ _) rfl h1⟩
  unfold g67
  have s1 : stepM [] ⟨[], 0, 0⟩ (.bx 24 4 (.c c.v)) = some (.p (some ⟨false, 0, 0⟩), ⟨[some (blkOf 24 c.vs)], 0, 0⟩) := rfl
  have s2 : stepM [] ⟨[some (blkOf 24 c.vs)], 0, 0⟩ (.bx 24 4 (.c o.v)) = some (.p (some ⟨false, 1, 0⟩), ⟨[some (blkOf 24 c.vs), some (blkOf 24 o.vs)], 0, 0⟩) := rfl
  have s3 : stepM [] ⟨[some (blkOf 24 c.vs), some (blkOf 24 o.vs)], 0, 0⟩ (.al 24 zC) = some (.p (some ⟨false, 2, 0⟩), ⟨X0 c o, 0, 0⟩) := rfl
  have hb : lget (X0 c o) 0 = some (some (blkOf 24 c.vs)) := rfl
  have hb1 : lget (X0 c o) 1 = some (some (blkOf 24 o.vs)) := rfl
  obtain ⟨hp1, o1, o2⟩ := out0 c o c
  simp only [s1, s2, s3, pS, fS, oS, rd_k hb, rd_a hb, rd_l hb, rd_w hb, rd_all hb, rd_k hb1, rd_a hb1, rd_l hb1, rd_w hb1, asI_i, forceB_eq, forceI_eq, eqI_eq, ltI_eq, tupA]
  have beq : ∀ a b : Int, (a == b) = decide (a = b) := fun _ _ => rfl
  simp only [beq]
  unfold turnP
  by_cases e1 : o.k ≠ 1 ∨ c.k = 0
  · rw [if_pos e1]
    have : (bindO (cond (!decide (o.k = 1)) (some true) (some (decide (c.k = 0)))) fun c13 : Bool => some c13) = some true := by
      rcases e1 with h | h
      · simp [h, bindO]
      · by_cases h2 : o.k = 1 <;> simp [h, h2, bindO]
    have e2 : (cond (!decide (o.k = 1)) (some true) (some (decide (c.k = 0)))) = some true := by
      rcases e1 with h | h
      · simp [h]
      · by_cases h2 : o.k = 1 <;> simp [h, h2]
    simp only [e2, bindO_some, cond_true]
    exact ⟨_, fin0 _ _, rfl⟩
  · rw [if_neg e1]
    have h1 : o.k = 1 := by
      by_cases h : o.k = 1
      · exact h
      · exact absurd (.inl h) e1
    have h2 : ¬ c.k = 0 := fun h => e1 (.inr h)
    simp only [h1, h2, decide_true, decide_false, Bool.not_true, cond_false, bindO_some]
    have hD : (if o.a < c.a ∨ (o.a = c.a ∧ (c.k = 2 ∨ o.w < c.w ∨ (o.w = c.w ∧ o.l < c.l))) then upC c else c) = cond (cond (decide (o.a = c.a)) (decide (c.k = 2) || (decide (o.w < c.w) || (decide (o.w = c.w) && decide (o.l < c.l)))) (decide (o.a < c.a))) (upC c) c := by
      by_cases ea : o.a = c.a
      · have hlt : ¬ (o.a < c.a) := by omega
        by_cases ek : c.k = 2
        · rw [if_pos (.inr ⟨ea, .inl ek⟩)]; simp [ea, ek]
        · by_cases ew : o.w < c.w
          · rw [if_pos (.inr ⟨ea, .inr (.inl ew)⟩)]; simp [ea, ew]
          · by_cases ew2 : o.w = c.w
            · by_cases el : o.l < c.l
              · rw [if_pos (.inr ⟨ea, .inr (.inr ⟨ew2, el⟩)⟩)]; simp [ea, ew2, el]
              · rw [if_neg (by omega)]; simp [ea, ek, ew2, el]
            · rw [if_neg (by omega)]; simp [ea, ek, ew, ew2]
      · by_cases el : o.a < c.a
        · rw [if_pos (.inl el)]; simp [ea, el]
        · rw [if_neg (by omega)]; simp [ea, el]
    rw [hD]
    obtain ⟨q1, q2, q3⟩ := set0 c o (wr .i64 (c.a + 1))
    obtain ⟨hp2, q4, q5⟩ := q3 (upC c)
    have e : Ch.v ⟨c.k, wr .i64 (c.a + 1), c.l, c.w⟩ = (upC c).v := rfl
    rw [e] at q2
    generalize decide (o.a = c.a) = b1
    generalize decide (c.k = 2) = b2
    generalize decide (o.w < c.w) = b3
    generalize decide (o.w = c.w) = b4
    generalize decide (o.l < c.l) = b5
    generalize decide (o.a < c.a) = b6
    have yes : ∃ r : AVal × Heap × Nat × Nat, (bindP (stepM [] ⟨X0 c o, 0, 0⟩ (.st 1 (.c (.p (some ⟨false, 0, 1⟩))) (.c (.i .i64 (wr .i64 (c.a + 1)))))) fun vn_1 m_6 =>
        bindO (ldM [] m_6 false 4 (.p (some ⟨false, 0, 0⟩))) fun v54 =>
        bindP (stepM [] m_6 (.st 4 (.c (.p (some ⟨false, 2, 0⟩))) (.c v54))) fun vn_2 m_7 =>
        bindO (ldM [] m_7 false 4 (.p (some ⟨false, 2, 0⟩))) fun vr_1 =>
        finM ([] : Heap).length vr_1 m_7) = some r ∧ r.1 = (upC c).v := by
      simp only [q1, bindP_some, q2, bindO_some, q4, q5]
      exact ⟨_, fin0 _ _, rfl⟩
    have no : ∃ r : AVal × Heap × Nat × Nat, (bindO (ldM [] ⟨X0 c o, 0, 0⟩ false 4 (.p (some ⟨false, 0, 0⟩))) fun v54 =>
        bindP (stepM [] ⟨X0 c o, 0, 0⟩ (.st 4 (.c (.p (some ⟨false, 2, 0⟩))) (.c v54))) fun vn_2 m_7 =>
        bindO (ldM [] m_7 false 4 (.p (some ⟨false, 2, 0⟩))) fun vr_1 =>
        finM ([] : Heap).length vr_1 m_7) = some r ∧ r.1 = c.v := by
      simp only [rd_all hb, bindO_some, o1, bindP_some, o2]
      exact ⟨_, fin0 _ _, rfl⟩
    simp only [q1, bindP_some, bindO_some, q2, q4, q5] at yes
    simp only [rd_all hb, bindP_some, bindO_some, o1, o2] at no
    cases b1
    · cases b6
      · simp only [cond_false, bindO_some, rd_all hb, o1, bindP_some, o2]; exact no
      · simp only [cond_false, cond_true, bindO_some, q1, bindP_some, q2, q4, q5]; exact yes
    · cases b2
      · cases b3
        · cases b4
          · simp only [cond_false, cond_true, bindO_some, rd_all hb, o1, bindP_some, o2, Bool.false_or, Bool.false_and]; exact no
          · cases b5
            · simp only [cond_false, cond_true, bindO_some, rd_all hb, o1, bindP_some, o2, Bool.false_or, Bool.true_and]; exact no
            · simp only [cond_false, cond_true, bindO_some, q1, bindP_some, q2, q4, q5, Bool.false_or, Bool.true_and]; exact yes
        · simp only [cond_false, cond_true, bindO_some, q1, bindP_some, q2, q4, q5, Bool.false_or, Bool.true_or]; exact yes
      · simp only [cond_true, bindO_some, q1, bindP_some, q2, q4, q5, Bool.true_or]; exact yes
theorem same0 (c o : Ch) : ∃ h lw lp, callX Fa [] 96 [c.v, o.v] [] = some (c.v, h, lw, lp) := by
  suffices h : ∃ r : AVal × Heap × Nat × Nat, g96 (meansX Fa []) [] c.v o.v ⟨[], 0, 0⟩ = some r ∧ r.1 = c.v by
    obtain ⟨⟨v, hp, lw, lp⟩, h1, h2⟩ := h
    cases h2
    exact ⟨_, _, _, g96_ok (meansX_ok _ _) rfl h1⟩
  unfold g96
  have s1 : stepM [] ⟨[], 0, 0⟩ (.bx 24 4 (.c c.v)) = some (.p (some ⟨false, 0, 0⟩), ⟨[some (blkOf 24 c.vs)], 0, 0⟩) := rfl
  have s2 : stepM [] ⟨[some (blkOf 24 c.vs)], 0, 0⟩ (.bx 24 4 (.c o.v)) = some (.p (some ⟨false, 1, 0⟩), ⟨[some (blkOf 24 c.vs), some (blkOf 24 o.vs)], 0, 0⟩) := rfl
  have s3 : stepM [] ⟨[some (blkOf 24 c.vs), some (blkOf 24 o.vs)], 0, 0⟩ (.al 24 zC) = some (.p (some ⟨false, 2, 0⟩), ⟨X0 c o, 0, 0⟩) := rfl
  have hb : lget (X0 c o) 0 = some (some (blkOf 24 c.vs)) := rfl
  obtain ⟨hp1, o1, o2⟩ := out0 c o c
  simp only [s1, s2, s3, bindP_some, bindO_some, rd_all hb, o1, o2, tupA]
  exact ⟨_, fin0 _ _, rfl⟩
theorem hide0 (c o : Ch) : ∃ h lw lp, callX Fa [] 98 [c.v, o.v] [] = some ((hideP c o).v, h, lw, lp) := by
  suffices h : ∃ r : AVal × Heap × Nat × Nat, g98 (meansX Fa []) [] c.v o.v ⟨[], 0, 0⟩ = some r ∧ r.1 = (hideP c o).v by
    obtain ⟨⟨v, hp, lw, lp⟩, h1, h2⟩ := h
    cases h2
    exact ⟨_, _, _, g98_ok (meansX_ok _ _) rfl h1⟩
  unfold g98
  have s1 : stepM [] ⟨[], 0, 0⟩ (.bx 24 4 (.c c.v)) = some (.p (some ⟨false, 0, 0⟩), ⟨[some (blkOf 24 c.vs)], 0, 0⟩) := rfl
  have s2 : stepM [] ⟨[some (blkOf 24 c.vs)], 0, 0⟩ (.bx 24 4 (.c o.v)) = some (.p (some ⟨false, 1, 0⟩), ⟨[some (blkOf 24 c.vs), some (blkOf 24 o.vs)], 0, 0⟩) := rfl
  have s3 : stepM [] ⟨[some (blkOf 24 c.vs), some (blkOf 24 o.vs)], 0, 0⟩ (.al 24 zC) = some (.p (some ⟨false, 2, 0⟩), ⟨X0 c o, 0, 0⟩) := rfl
  have hb : lget (X0 c o) 0 = some (some (blkOf 24 c.vs)) := rfl
  have hb1 : lget (X0 c o) 1 = some (some (blkOf 24 o.vs)) := rfl
  obtain ⟨hp1, o1, o2⟩ := out0 c o c
  simp only [s1, s2, s3, bindP_some, fa, bindO_some, Nat.zero_add, rd_a hb, rd_a hb1, asI_i, forceB_eq, forceI_eq, ltI_eq, tupA]
  unfold hideP
  by_cases e : o.a ≤ c.a
  · have e2 : (!decide (c.a < o.a)) = true := by simp; omega
    rw [if_pos e]
    obtain ⟨q1, q2, q3⟩ := set0 c o (wr .i64 (c.a + 1))
    obtain ⟨hp2, q4, q5⟩ := q3 (upC c)
    simp only [e2, cond_true, q1, bindP_some, bindO_some, q2]
    have e : Ch.v ⟨c.k, wr .i64 (c.a + 1), c.l, c.w⟩ = (upC c).v := rfl
    simp only [e, q4, bindP_some, q5, bindO_some]
    exact ⟨_, fin0 _ _, rfl⟩
  · have e2 : (!decide (c.a < o.a)) = false := by simp; omega
    rw [if_neg e]
    simp only [e2, cond_false, bindO_some, rd_all hb, o1, bindP_some, o2]
    exact ⟨_, fin0 _ _, rfl⟩
end Go.Proofs.Ythcadkmfbgonjaa.T

/- The program's turning, with its table of functions. -/
open Go.Vm
set_option linter.unusedVariables false
namespace Go.Proofs.Ythcadkmfbgonjaa.T
open Go

abbrev I3 (a b c : Int) : List AVal := [.i .i64 a, .i .i64 b, .i .i64 c]
abbrev X1 (c o : Ch) (a b d : Int) : Heap := [some (blkOf 24 c.vs), some (blkOf 24 o.vs), some (blkOf 24 zC), some (blkOf 3 (I3 a b d))]
abbrev Y1 (c o : Ch) (a b d x : Int) : Heap := [some { blkOf 24 c.vs with c := (blkOf 24 c.vs).c.set 1 (.i .i64 x) }, some (blkOf 24 o.vs), some (blkOf 24 zC), some (blkOf 3 (I3 a b d))]
theorem sl3 (c o : Ch) (a b d : Int) : stepM [] ⟨X0 c o, 3, 3⟩ (.bsl 3 1 [(AVal.i IntKind.i64 0)] 3 [((0, 1), .c (.i .i64 a)), ((1, 1), .c (.i .i64 b)), ((2, 1), .c (.i .i64 d))]) = some (.sl ⟨false, 3, 0⟩ 3 (.known 3), ⟨X1 c o a b d, 3, 3⟩) := by
  simp [stepM, stepK, st_bsl, rep, fillA, opd, AVal.cells, splice, newB, St.mm]
theorem row3 (c o : Ch) (a b d : Int) : IsRow [] (X1 c o a b d) (.sl ⟨false, 3, 0⟩ 3 (.known 3)) [a, b, d] := by
  refine .inr ⟨⟨false, 3, 0⟩, .known 3, blkOf 3 (I3 a b d), rfl, rfl, Nat.le_refl 3, fun j hj => ?_⟩
  rw [get_blk]
  match j, hj with
  | 0, _ => rfl
  | 1, _ => rfl
  | 2, _ => rfl
theorem outG {hp : Heap} (hb : Holds hp 2 zC) (r : Ch) : ∃ hp', stepM [] ⟨hp, 0, 0⟩ (.st 4 (.c (.p (some ⟨false, 2, 0⟩))) (.c r.v)) = some (und, ⟨hp', 0, 0⟩) ∧ ldM [] ⟨hp', 0, 0⟩ false 4 (.p (some ⟨false, 2, 0⟩)) = some r.v := by
  obtain ⟨hp', h1, h2, -⟩ := hb.st (ro := []) (h := []) (v := r.v) (vs' := r.vs) (n := 4) rfl rfl rfl rfl (by simp) ⟨by simp, by simp⟩
  exact ⟨hp', h1, h2.all rfl⟩
theorem set1a (c o : Ch) (a b d x : Int) : stepM [] ⟨X1 c o a b d, 0, 0⟩ (.st 1 (.c (.p (some ⟨false, 0, 1⟩))) (.c (.i .i64 x))) = some (und, ⟨Y1 c o a b d x, 0, 0⟩) := by
  have hb : lget (X1 c o a b d) 0 = some (some (blkOf 24 c.vs)) := rfl
  rw [st_heap hb (show 1 < 4 by decide) rfl rfl rfl]
  rfl
theorem set1b (c o : Ch) (a b d x : Int) : ldM [] ⟨Y1 c o a b d x, 0, 0⟩ false 4 (.p (some ⟨false, 0, 0⟩)) = some (Ch.v ⟨c.k, x, c.l, c.w⟩) := by
  have hb : rdB [] (Y1 c o a b d x) ⟨false, 0, 0⟩ = some { blkOf 24 c.vs with c := (blkOf 24 c.vs).c.set 1 (.i .i64 x) } := rfl
  simp only [ldM, rd, hb, cond_false]
  show (cond (Nat.ble (0 + 4) 4) (some (AVal.agg (((blkOf 24 c.vs).c.set 1 (.i .i64 x)).row 0 4))) none) = _
  simp only [Tr.row, get_set, get_blk, Ch.v, Ch.vs]
  rfl
theorem rdA_k {ro : List ABlk} {x : Heap} {c : Ch} {b : Nat} (h : lget x b = some (some (blkOf 24 c.vs))) : ldA ro x true 1 (.p (some ⟨false, b, 0⟩)) = some (.i .i64 c.k) := by rw [lda_heap h (show 0 < 4 by decide)]; rfl
theorem rdA_l {ro : List ABlk} {x : Heap} {c : Ch} {b : Nat} (h : lget x b = some (some (blkOf 24 c.vs))) : ldA ro x true 1 (.p (some ⟨false, b, 2⟩)) = some (.i .u8 c.l) := by rw [lda_heap h (show 2 < 4 by decide)]; rfl
theorem rdA_w {ro : List ABlk} {x : Heap} {c : Ch} {b : Nat} (h : lget x b = some (some (blkOf 24 c.vs))) : ldA ro x true 1 (.p (some ⟨false, b, 3⟩)) = some (.i .i64 c.w) := by rw [lda_heap h (show 3 < 4 by decide)]; rfl
theorem rdA_all {ro : List ABlk} {x : Heap} {c : Ch} {b : Nat} (h : lget x b = some (some (blkOf 24 c.vs))) : ldA ro x false 4 (.p (some ⟨false, b, 0⟩)) = some c.v := by
  have : Holds x b c.vs := ⟨blkOf 24 c.vs, h, rfl, fun j _ => get_blk 24 c.vs j⟩
  exact this.allA rfl

theorem or_cmp (c o : Ch) : (orI (cmpI o.a c.a) (cmpI o.w c.w) (cmpI o.l c.l) < 0) ↔ (o.a < c.a ∨ (o.a = c.a ∧ (o.w < c.w ∨ (o.w = c.w ∧ o.l < c.l)))) := by
  unfold orI cmpI
  by_cases a1 : o.a < c.a
  · simp [a1]
  · by_cases a2 : c.a < o.a
    · simp [a1, a2]; omega
    · have : o.a = c.a := by omega
      by_cases w1 : o.w < c.w
      · simp [this, w1]
      · by_cases w2 : c.w < o.w
        · simp [this, w1, w2]; omega
        · have hw : o.w = c.w := by omega
          by_cases l1 : o.l < c.l
          · simp [this, hw, l1]
          · by_cases l2 : c.l < o.l
            · simp [this, hw, l1, l2]
            · simp [this, hw, l1, l2]

theorem put0 (c o : Ch) : ∃ h lw lp, callX Fa [] 97 [c.v, o.v] [] = some ((putP c o).v, h, lw, lp) := by
  suffices h : ∃ r : AVal × Heap × Nat × Nat, g97 (meansX Fa []) [] c.v o.v ⟨[], 0, 0⟩ = some r ∧ r.1 = (putP c o).v by
    obtain ⟨⟨v, hp, lw, lp⟩, h1, h2⟩ := h
    cases h2
    exact ⟨_, _, _, g97_ok (meansX_ok _ _) rfl h1⟩
  unfold g97
  have s1 : stepM [] ⟨[], 0, 0⟩ (.bx 24 4 (.c c.v)) = some (.p (some ⟨false, 0, 0⟩), ⟨[some (blkOf 24 c.vs)], 0, 0⟩) := rfl
  have s2 : stepM [] ⟨[some (blkOf 24 c.vs)], 0, 0⟩ (.bx 24 4 (.c o.v)) = some (.p (some ⟨false, 1, 0⟩), ⟨[some (blkOf 24 c.vs), some (blkOf 24 o.vs)], 0, 0⟩) := rfl
  have s3 : stepM [] ⟨[some (blkOf 24 c.vs), some (blkOf 24 o.vs)], 0, 0⟩ (.al 24 zC) = some (.p (some ⟨false, 2, 0⟩), ⟨X0 c o, 0, 0⟩) := rfl
  have hb : lget (X0 c o) 0 = some (some (blkOf 24 c.vs)) := rfl
  have hb1 : lget (X0 c o) 1 = some (some (blkOf 24 o.vs)) := rfl
  have k100 : ∀ a b, callM (callX Fa []) ⟨X0 c o, 3, 3⟩ 100 [.i .i64 a, .i .i64 b] = some (.i .i64 (cmpI a b), ⟨X0 c o, 3, 3⟩) := fun a b => cp (callA1 rfl) (Nat.le_refl 3) (Nat.le_refl 3)
  have k101 : ∀ a b, callM (callX Fa []) ⟨X0 c o, 3, 3⟩ 101 [.i .u8 a, .i .u8 b] = some (.i .i64 (cmpI a b), ⟨X0 c o, 3, 3⟩) := fun a b => cp (callA1 rfl) (Nat.le_refl 3) (Nat.le_refl 3)
  have k99 : ∀ a b d, callM (callX Fa []) ⟨X1 c o a b d, 3, 3⟩ 99 [.sl ⟨false, 3, 0⟩ 3 (.known 3)] = some (.i .i64 (orI a b d), ⟨X1 c o a b d, 3, 3⟩) := fun a b d => cp (or0 (row3 c o a b d) rfl) (by simp) (by simp)
  have hbase : Mm.base ⟨X0 c o, 0, 0⟩ = ⟨X0 c o, 3, 3⟩ := rfl
  have hch : (!Nat.blt 3 (X0 c o).length) = true := rfl
  have hj : ∀ a b d, Mm.join ⟨X0 c o, 0, 0⟩ ⟨X1 c o a b d, 3, 3⟩ = ⟨X1 c o a b d, 0, 0⟩ := fun _ _ _ => rfl
  have cht : ∀ {β : Type} (f : Option β), chk true f = f := fun _ => rfl
  rw [bindP_of s1, bindP_of s2, bindP_of s3, hbase, oS]
  simp only [fS, oS, rd_a hb, rd_a hb1, asI_i, meansX_call]
  rw [bindP_of (k100 _ _)]
  simp only [asI_i, hch]
  rw [cht]
  simp only [rdA_w hb, rdA_w hb1, oS, asI_i]
  rw [bindP_of (k100 _ _)]
  simp only [asI_i, hch]
  rw [cht]
  simp only [rdA_l hb, rdA_l hb1, oS, asI_i]
  rw [bindP_of (k101 _ _)]
  simp only [asI_i]
  rw [bindP_of (sl3 c o _ _ _), bindP_of (k99 _ _ _)]
  simp only [asI_i, forceB_eq, ltI_eq, hj, tupA]
  have hx : lget (X1 c o (cmpI o.a c.a) (cmpI o.w c.w) (cmpI o.l c.l)) 0 = some (some (blkOf 24 c.vs)) := rfl
  unfold putP
  by_cases e : o.a < c.a ∨ (o.a = c.a ∧ (o.w < c.w ∨ (o.w = c.w ∧ o.l < c.l)))
  · rw [if_pos e, dT ((or_cmp c o).2 e)]
    have hs := set1a c o (cmpI o.a c.a) (cmpI o.w c.w) (cmpI o.l c.l) (wr .i64 (c.a + 1))
    have hr := set1b c o (cmpI o.a c.a) (cmpI o.w c.w) (cmpI o.l c.l) (wr .i64 (c.a + 1))
    obtain ⟨hp', q1, q2⟩ := outG (hp := Y1 c o (cmpI o.a c.a) (cmpI o.w c.w) (cmpI o.l c.l) (wr .i64 (c.a + 1))) ⟨blkOf 24 zC, rfl, rfl, fun j _ => get_blk 24 zC j⟩ (upC c)
    have ee : Ch.v ⟨c.k, wr .i64 (c.a + 1), c.l, c.w⟩ = (upC c).v := rfl
    rw [ee] at hr
    simp only [cT, rd_a hx, oS, asI_i, forceI_eq]
    simp only [bindP_of hs, oS]
    rw [bindO_of hr, bindP_of q1, bindO_of q2]
    exact ⟨_, fin0 _ _, rfl⟩
  · rw [if_neg e, dF (fun h => e ((or_cmp c o).1 h))]
    obtain ⟨hp', q1, q2⟩ := outG (hp := X1 c o (cmpI o.a c.a) (cmpI o.w c.w) (cmpI o.l c.l)) ⟨blkOf 24 zC, rfl, rfl, fun j _ => get_blk 24 zC j⟩ c
    simp only [cF, oS]
    rw [bindO_of (rd_all hx), bindP_of q1, bindO_of q2]
    exact ⟨_, fin0 _ _, rfl⟩

def asCh : AVal → Option Ch
  | .agg [.i .i64 k, .i .i64 a, .i .u8 l, .i .i64 w] => some ⟨k, a, l, w⟩
  | _ => none
theorem asCh_v {v : AVal} {c : Ch} (h : asCh v = some c) : v = c.v := by
  unfold asCh at h
  split at h
  · cases h; rfl
  · cases h
def two (f : Ch → Ch → Ch) (args : List AVal) : Option AVal :=
  match args with
  | [v, w] => match asCh v, asCh w with
    | some c, some o => some (f c o).v
    | _, _ => none
  | _ => none
def fitK (f : Ch → Int → Bool) (args : List AVal) : Option AVal :=
  match args with
  | [v, .i .i64 n] => (asCh v).map fun c => .b (f c n)
  | _ => none
theorem two_inv {f : Ch → Ch → Ch} {args : List AVal} {v : AVal} (h : two f args = some v) : ∃ c o : Ch, args = [c.v, o.v] ∧ v = (f c o).v := by
  unfold two at h
  split at h
  · split at h
    · rename_i c o h1 h2
      cases h
      exact ⟨c, o, by rw [asCh_v h1, asCh_v h2], rfl⟩
    · cases h
  · cases h
theorem fitK_inv {f : Ch → Int → Bool} {args : List AVal} {v : AVal} (h : fitK f args = some v) : ∃ (c : Ch) (n : Int), args = [c.v, .i .i64 n] ∧ v = .b (f c n) := by
  unfold fitK at h
  split at h
  · rw [Option.map_eq_some_iff] at h
    obtain ⟨c, h1, e⟩ := h
    exact ⟨c, _, by rw [asCh_v h1], e.symm⟩
  · cases h
def K2 (f : Nat) (args : List AVal) : Option AVal :=
  cond (Nat.beq f 59) (fitK fitR args) <| cond (Nat.beq f 62) (fitK fitP args) <| cond (Nat.beq f 67) (two turnP args) <|
  cond (Nat.beq f 96) (two (fun c _ => c) args) <| cond (Nat.beq f 97) (two putP args) <| cond (Nat.beq f 98) (two hideP args) none
theorem plain_v (c : Ch) : plainB c.v = true := rfl
theorem K2_ok : ∀ f a v, K2 f a = some v → (∀ x ∈ a, plainB x = true) ∧ plainB v = true ∧ ∃ h' lw lp, callX Fa [] f a [] = some (v, h', lw, lp) := by
  intro f a v hK
  unfold K2 at hK
  have t2 : ∀ {g : Ch → Ch → Ch} {k : Nat}, two g a = some v → (∀ c o : Ch, ∃ h lw lp, callX Fa [] k [c.v, o.v] [] = some ((g c o).v, h, lw, lp)) → (∀ x ∈ a, plainB x = true) ∧ plainB v = true ∧ ∃ h' lw lp, callX Fa [] k a [] = some (v, h', lw, lp) := fun h h2 => by
    obtain ⟨c, o, rfl, rfl⟩ := two_inv h
    exact ⟨by simp [plain_v], plain_v _, h2 c o⟩
  have t1 : ∀ {g : Ch → Int → Bool} {k : Nat}, fitK g a = some v → (∀ (c : Ch) (n : Int), ∃ h lw lp, callX Fa [] k [c.v, .i .i64 n] [] = some (.b (g c n), h, lw, lp)) → (∀ x ∈ a, plainB x = true) ∧ plainB v = true ∧ ∃ h' lw lp, callX Fa [] k a [] = some (v, h', lw, lp) := fun h h2 => by
    obtain ⟨c, n, rfl, rfl⟩ := fitK_inv h
    refine ⟨fun x hx => ?_, rfl, h2 c n⟩
    simp only [List.mem_cons, List.not_mem_nil, or_false] at hx
    rcases hx with rfl | rfl
    · exact plain_v c
    · rfl
  cases e1 : Nat.beq f 59
  · cases e2 : Nat.beq f 62
    · cases e3 : Nat.beq f 67
      · cases e4 : Nat.beq f 96
        · cases e5 : Nat.beq f 97
          · cases e6 : Nat.beq f 98
            · simp only [e1, e2, e3, e4, e5, e6, cond_false] at hK; cases hK
            · simp only [e1, e2, e3, e4, e5, e6, cond_false, cond_true] at hK
              obtain rfl := beqE e6
              exact t2 hK hide0
          · simp only [e1, e2, e3, e4, e5, cond_false, cond_true] at hK
            obtain rfl := beqE e5
            exact t2 hK put0
        · simp only [e1, e2, e3, e4, cond_false, cond_true] at hK
          obtain rfl := beqE e4
          exact t2 hK same0
      · simp only [e1, e2, e3, cond_false, cond_true] at hK
        obtain rfl := beqE e3
        exact t2 hK turnR0
    · simp only [e1, e2, cond_false, cond_true] at hK
      obtain rfl := beqE e2
      exact t1 hK fits0
  · simp only [e1, cond_true] at hK
    obtain rfl := beqE e1
    exact t1 hK fitsR0
abbrev Ob : Caller := orC (knownS K1) (knownS K2)
theorem O2_ok {E : Env} (hE : E.Ok) (hm : E.P.follows .mixedOrders = true) (hF : FOk E.P F) : CallOk E Ob :=
  or_ok (O1_ok hE hm hF) (knownP_ok (callX_sound (E := E.bare) (Env.bare_ok hE) hm (F := Fa) hF (O1_ok (Env.bare_ok hE) hm hF)) K2_ok)
end Go.Proofs.Ythcadkmfbgonjaa.T

/- The program's turning is the reference's; all that is known beforehand. -/
open Go.Vm
set_option linter.unusedVariables false
namespace Go.Proofs.Ythcadkmfbgonjaa.T
open Go Go.RowKit Go.Deep Go.WideShapes Go.ChangeShapes

abbrev Fb : Tab := ⟨F, Ob⟩
def kindOk (c : Ch) : Prop := c.k = 0 ∨ c.k = 1 ∨ c.k = 2
instance (c : Ch) : Decidable (kindOk c) := inferInstanceAs (Decidable (_ ∨ _ ∨ _))
theorem callB {ro : List ABlk} {hp : Heap} {f : Nat} {a : List AVal} {v : AVal} (h : K1 f a = some v) : callX Fb ro f a hp = some (v, hp, hp.length, hp.length) := callX_ov (by show orC (knownS K1) (knownS K2) f a hp = _; unfold orC; rw [knownA h hp])
theorem callB2 {ro : List ABlk} {hp : Heap} {f : Nat} {a : List AVal} {v : AVal} (h1 : K1 f a = none) (h : K2 f a = some v) : callX Fb ro f a hp = some (v, hp, hp.length, hp.length) := callX_ov (by
  have : knownS K1 f a hp = none := by unfold knownS; rw [h1]
  show orC (knownS K1) (knownS K2) f a hp = _; unfold orC; rw [this]; exact knownA h hp)
abbrev tabV : AVal := .agg [.fn 96 [] [], .fn 96 [] [], .fn 96 [] [], .fn 96 [] [], .fn 97 [] [], .fn 96 [] [], .fn 96 [] [], .fn 98 [] [], .fn 96 [] []]

theorem turn0 (c o : Ch) (hc : kindOk c) (ho : kindOk o) : ∃ h lw lp, callX Fb [] 66 [c.v, o.v] [] = some ((turnP c o).v, h, lw, lp) := by
  suffices h : ∃ r : AVal × Heap × Nat × Nat, g66 (meansX Fb []) [] c.v o.v ⟨[], 0, 0⟩ = some r ∧ r.1 = (turnP c o).v by
    obtain ⟨⟨v, hp, lw, lp⟩, h1, h2⟩ := h
    cases h2
    exact ⟨_, _, _, g66_ok (meansX_ok _ _) rfl h1⟩
  unfold g66
  have s1 : stepM [] ⟨[], 0, 0⟩ (.bx 24 4 (.c c.v)) = some (.p (some ⟨false, 0, 0⟩), ⟨[some (blkOf 24 c.vs)], 0, 0⟩) := rfl
  have s2 : stepM [] ⟨[some (blkOf 24 c.vs)], 0, 0⟩ (.bx 24 4 (.c o.v)) = some (.p (some ⟨false, 1, 0⟩), ⟨[some (blkOf 24 c.vs), some (blkOf 24 o.vs)], 0, 0⟩) := rfl
  have s3 : stepM [] ⟨[some (blkOf 24 c.vs), some (blkOf 24 o.vs)], 0, 0⟩ (.al 24 zC) = some (.p (some ⟨false, 2, 0⟩), ⟨X0 c o, 0, 0⟩) := rfl
  have hb : lget (X0 c o) 0 = some (some (blkOf 24 c.vs)) := rfl
  have hb1 : lget (X0 c o) 1 = some (some (blkOf 24 o.vs)) := rfl
  have hbase : Mm.base ⟨X0 c o, 0, 0⟩ = ⟨X0 c o, 3, 3⟩ := rfl
  have hch : (!Nat.blt 3 (X0 c o).length) = true := rfl
  have cht : ∀ {β : Type} (f : Option β), chk true f = f := fun _ => rfl
  have k92 : callM (callX Fb []) ⟨X0 c o, 3, 3⟩ 92 [] = some (tabV, ⟨X0 c o, 3, 3⟩) := cp (callB rfl) (Nat.le_refl 3) (Nat.le_refl 3)
  have k96 : callvM (callX Fb []) ⟨X0 c o, 3, 3⟩ (.fn 96 [] []) [c.v, o.v] = some (c.v, ⟨X0 c o, 3, 3⟩) := cp (ro := []) (h := X0 c o) (f := 96) (a := [c.v, o.v]) (callB2 rfl rfl) (Nat.le_refl 3) (Nat.le_refl 3)
  have k97 : callvM (callX Fb []) ⟨X0 c o, 3, 3⟩ (.fn 97 [] []) [c.v, o.v] = some ((putP c o).v, ⟨X0 c o, 3, 3⟩) := cp (ro := []) (h := X0 c o) (f := 97) (a := [c.v, o.v]) (callB2 rfl rfl) (Nat.le_refl 3) (Nat.le_refl 3)
  have k98 : callvM (callX Fb []) ⟨X0 c o, 3, 3⟩ (.fn 98 [] []) [c.v, o.v] = some ((hideP c o).v, ⟨X0 c o, 3, 3⟩) := cp (ro := []) (h := X0 c o) (f := 98) (a := [c.v, o.v]) (callB2 rfl rfl) (Nat.le_refl 3) (Nat.le_refl 3)
  have out : ∀ r : Ch, ∃ hp', stepM [] ⟨X0 c o, 3, 3⟩ (.st 4 (.c (.p (some ⟨false, 2, 0⟩))) (.c r.v)) = some (und, ⟨hp', 2, 3⟩) ∧ ldM [] ⟨hp', 0, 0⟩ false 4 (.p (some ⟨false, 2, 0⟩)) = some r.v := fun r => ⟨_, rfl, rfl⟩
  have hj : ∀ hp : Heap, Mm.join ⟨X0 c o, 0, 0⟩ ⟨hp, 2, 3⟩ = ⟨hp, 0, 0⟩ := fun _ => rfl
  -- the table's function, and what it answers
  have key : ∀ (f : Nat) (r : Ch), (∃ u, evP .e (.ixV 3 3 false (.c tabV) (.c (.i .i64 c.k))) = some u ∧ evP .e (.ixV 3 1 true (.c u) (.c (.i .i64 o.k))) = some (.fn f [] [])) → callvM (callX Fb []) ⟨X0 c o, 3, 3⟩ (.fn f [] []) [c.v, o.v] = some (r.v, ⟨X0 c o, 3, 3⟩) → turnP c o = r →
      ∃ r : AVal × Heap × Nat × Nat, g66 (meansX Fb []) [] c.v o.v ⟨[], 0, 0⟩ = some r ∧ r.1 = (turnP c o).v := by
    intro f r ⟨u, hu, hv⟩ hcall hr
    obtain ⟨hp', q1, q2⟩ := out r
    unfold g66
    rw [bindP_of s1, bindP_of s2, bindP_of s3, hbase, oS]
    simp only [meansX_call]
    rw [bindP_of k92]
    simp only [hch]
    rw [cht]
    simp only [fS, oS, rdA_k hb, rdA_k hb1, rdA_all hb, rdA_all hb1, asI_i]
    rw [bindO_of hu, bindO_of hv, bindP_of hcall, bindP_of q1, hj, bindO_of q2]
    simp only [tupA]
    exact ⟨_, fin0 _ _, by rw [hr]⟩
  unfold g66 at key
  rcases hc with hc | hc | hc
  · have ht : turnP c o = c := by unfold turnP; rw [if_pos (.inr hc)]
    refine key 96 c ?_ k96 ht
    rw [hc]
    rcases ho with ho | ho | ho <;> rw [ho] <;> exact ⟨_, rfl, rfl⟩
  · rcases ho with ho | ho | ho
    · exact key 96 c (by rw [hc, ho]; exact ⟨_, rfl, rfl⟩) k96 (by unfold turnP; rw [if_pos (.inl (by omega))])
    · refine key 97 (putP c o) (by rw [hc, ho]; exact ⟨_, rfl, rfl⟩) k97 ?_
      unfold turnP putP
      rw [if_neg (by omega)]
      by_cases h : o.a < c.a ∨ (o.a = c.a ∧ (o.w < c.w ∨ (o.w = c.w ∧ o.l < c.l)))
      · rw [if_pos h, if_pos (by omega)]
      · rw [if_neg h, if_neg (by omega)]
    · exact key 96 c (by rw [hc, ho]; exact ⟨_, rfl, rfl⟩) k96 (by unfold turnP; rw [if_pos (.inl (by omega))])
  · rcases ho with ho | ho | ho
    · exact key 96 c (by rw [hc, ho]; exact ⟨_, rfl, rfl⟩) k96 (by unfold turnP; rw [if_pos (.inl (by omega))])
    · refine key 98 (hideP c o) (by rw [hc, ho]; exact ⟨_, rfl, rfl⟩) k98 ?_
      unfold turnP hideP
      rw [if_neg (by omega)]
      by_cases h : o.a ≤ c.a
      · rw [if_pos h, if_pos (by omega)]
      · rw [if_neg h, if_neg (by omega)]
    · exact key 96 c (by rw [hc, ho]; exact ⟨_, rfl, rfl⟩) k96 (by unfold turnP; rw [if_pos (.inl (by omega))])

def turnK (args : List AVal) : Option AVal :=
  match args with
  | [v, w] => match asCh v, asCh w with
    | some c, some o => if kindOk c ∧ kindOk o then some (turnP c o).v else none
    | _, _ => none
  | _ => none
def K3 (f : Nat) (args : List AVal) : Option AVal := cond (Nat.beq f 66) (turnK args) none
theorem K3_ok : ∀ f a v, K3 f a = some v → (∀ x ∈ a, plainB x = true) ∧ plainB v = true ∧ ∃ h' lw lp, callX Fb [] f a [] = some (v, h', lw, lp) := by
  intro f a v hK
  unfold K3 at hK
  cases e1 : Nat.beq f 66
  · rw [e1] at hK; cases hK
  · rw [e1] at hK
    obtain rfl := beqE e1
    simp only [cond_true, turnK] at hK
    split at hK
    · split at hK
      · rename_i c o h1 h2
        split at hK
        · rename_i hk
          cases hK
          rw [asCh_v h1, asCh_v h2]
          exact ⟨by simp [plain_v], plain_v _, turn0 c o hk.1 hk.2⟩
        · cases hK
      · cases hK
    · cases hK
abbrev Oc : Caller := orC (known0 17 (.b true)) (orC Ob (knownS K3))
abbrev G1 : Tab := ⟨F, Oc⟩
/-- the call of the model: true, and below nothing has turned -/
theorem call_of1 {W : World} {ro : List ABlk} {rl : Rl} (hE : (Env.mk Try.prog W.heap.size W ro rl).Ok) {K : Nat} {vs : List AVal} {args : Array Value}
    (hv : LR rl [] vs args) {h' : Heap} {lw lp : Nat} (hc : callX G1 ro K vs [] = some (.b true, h', lw, lp)) : Calls Try.prog K args W fun e W' => e = .returned (.bool true) ∧ Below W.heap.size W W' := by
  have hm : (Env.mk Try.prog W.heap.size W ro rl).P.follows .mixedOrders = true := Try.checked.mixed
  have hO : CallOk (Env.mk Try.prog W.heap.size W ro rl) Oc := or_ok (known0_of hE hm fok alive0 rfl) (or_ok (O2_ok hE hm fok) (knownP_ok (callX_sound (Env.bare_ok hE) hm (F := Fb) fok (O2_ok (Env.bare_ok hE) hm fok)) K3_ok))
  obtain ⟨-, h2⟩ := callX_sound hE hm (F := G1) fok hO K vs [] _ _ _ _ hc
  refine Calls.mono (h2 [] W args ⟨Below.refl _ _, rfl, by simp, fun i b r K hl => by simp [Live] at hl, fun i j b b' r K K' hl => by simp [Live] at hl⟩ hv) fun e w' hq => ?_
  obtain ⟨v', rfl, m', hvr, T⟩ := hq
  exact ⟨by rw [hvr.inv_b], T.hr.below⟩

section
variable {ro : List ABlk} {h : Heap}
theorem Oc_none {f : Nat} {a : List AVal} (h0 : known0 17 (.b true) f a h = none) (h1 : K1 f a = none) (h2 : K2 f a = none) (h3 : K3 f a = none) : Oc f a h = none := by
  show orC _ (orC (orC (knownS K1) (knownS K2)) (knownS K3)) f a h = _
  simp only [h0, orC, knownS, h1, h2, h3]
theorem gAlive : callX G1 ro 17 [] h = some (.b true, h, h.length, h.length) := callX_ov rfl
theorem g1K {f : Nat} {a : List AVal} {v : AVal} (h0 : known0 17 (.b true) f a h = none) (h1 : K1 f a = some v) : callX G1 ro f a h = some (v, h, h.length, h.length) := callX_ov (by
  show orC _ (orC (orC (knownS K1) (knownS K2)) (knownS K3)) f a h = _
  unfold orC; rw [h0]; simp only [knownA h1 h])
theorem k76 (x : Int) : callX G1 ro 76 [.i .u8 x] h = some (.b (decide (97 ≤ x ∧ x ≤ 122)), h, h.length, h.length) := g1K rfl rfl
theorem k77 (a x b : Int) : callX G1 ro 77 [.i .i64 a, .i .i64 x, .i .i64 b] h = some (.b (decide (a ≤ x ∧ x ≤ b)), h, h.length, h.length) := g1K rfl rfl
end
end Go.Proofs.Ythcadkmfbgonjaa.T

/- Lists of changes: what they hold, whether all of them fit. -/
open Go.Vm
set_option linter.unusedVariables false
namespace Go.Proofs.Ythcadkmfbgonjaa.T
open Go

section
variable {ro : List ABlk} {h hp : Heap} {v : AVal} {es : Nat} {X : List (List AVal)}
theorem IsL.ext (x : Heap) (a : IsL ro h v es X) : IsL ro (h ++ x) v es X := by
  obtain ⟨h0, a | a | ⟨q, cap, blk, e, hb, h1, h2⟩⟩ := a
  · exact ⟨h0, .inl a⟩
  · exact ⟨h0, .inr (.inl a)⟩
  · exact ⟨h0, .inr (.inr ⟨q, cap, blk, e, rdB_ext x hb, h1, h2⟩)⟩
theorem IsL.by (a : IsL ro h v es X) (k : Keep h hp) : IsL ro hp v es X := by
  rw [take_eq k.1 k.2]; exact a.ext _
theorem IsL.bel (a : IsL ro h v es X) : v.bel h.length = true := by
  obtain ⟨h0, ⟨rfl, rfl⟩ | ⟨rfl, rfl⟩ | ⟨q, cap, blk, rfl, hb, h1, h2⟩⟩ := a
  · rfl
  · rfl
  · simpa [AVal.bel] using rdB_lt hb
theorem len_L (a : IsL ro h v es X) : evP .e (.len false (.c v)) = some (.i .i64 X.length) := by
  obtain ⟨h0, ⟨rfl, rfl⟩ | ⟨rfl, rfl⟩ | ⟨q, cap, blk, rfl, -⟩⟩ := a
  · rfl
  · rfl
  · simp [evP, ev_len, opd, mkI_eq]
theorem at_L (a : IsL ro h v es X) {i : Nat} (hi : i < X.length) : ∃ q : Vm.Loc, evP .e (.ixS es (.c v) (.c (.i .i64 (i : Int)))) = some (.p (some q)) ∧ ∀ {hp : Heap}, Keep h hp →
    (∀ {lw lp : Nat}, ldM ro ⟨hp, lw, lp⟩ false es (.p (some q)) = some (.agg (X.getD i []))) ∧ ldA ro hp false es (.p (some q)) = some (.agg (X.getD i [])) ∧
    ∀ k, k < es → (∀ {lw lp : Nat}, ldM ro ⟨hp, lw, lp⟩ true 1 (.p (some ⟨q.ro, q.b, q.off + k⟩)) = some ((X.getD i []).getD k und)) ∧ ldA ro hp true 1 (.p (some ⟨q.ro, q.b, q.off + k⟩)) = some ((X.getD i []).getD k und) := by
  obtain ⟨h0, ⟨rfl, rfl⟩ | ⟨rfl, rfl⟩ | ⟨q, cap, blk, rfl, hb, hn, hc⟩⟩ := a
  · simp at hi
  · simp at hi
  · have hblt : Nat.blt i X.length = true := by rw [Nat.blt_eq]; exact hi
    have e : ((i : Int)) = Int.ofNat i := rfl
    have hl : (X.getD i []).length = es := h0 _ (by simp [List.getD, hi])
    have hle : i * es + es ≤ X.length * es := by
      have : (i + 1) * es ≤ X.length * es := Nat.mul_le_mul_right es hi
      rwa [Nat.add_mul, Nat.one_mul] at this
    refine ⟨⟨q.ro, q.b, q.off + i * es⟩, ?_, fun {hp} kp => ?_⟩
    · simp only [evP, ev_ixS, opd, e, atI, hblt, cond_true]
    · have hb1 : rdB ro hp q = some blk := by rw [take_eq kp.1 kp.2]; exact rdB_ext _ hb
      have hb' : rdB ro hp ⟨q.ro, q.b, q.off + i * es⟩ = some blk := hb1
      have hc4 : Nat.ble (q.off + i * es + es) blk.n = true := by rw [Nat.ble_eq]; omega
      have hrow : blk.c.row (q.off + i * es) es = X.getD i [] := by
        have := row_list (t := blk.c) (X.getD i []) (q.off + i * es) fun j hj => hc i hi j (by omega)
        rwa [hl] at this
      have hrd : rd ro hp false es ⟨q.ro, q.b, q.off + i * es⟩ = some (.agg (X.getD i [])) := by
        simp only [rd, hb', cond_false, hc4, cond_true, hrow]
      have hlt := rdB_lt hb1
      refine ⟨fun {lw lp} => hrd, by simp only [ldA, hlt, cond_true, hrd], fun k hk => ?_⟩
      have h1 : rd ro hp true 1 ⟨q.ro, q.b, q.off + i * es + k⟩ = some ((X.getD i []).getD k und) := by
        have hb2 : rdB ro hp ⟨q.ro, q.b, q.off + i * es + k⟩ = some blk := hb1
        have : Nat.blt (q.off + i * es + k) blk.n = true := by rw [Nat.blt_eq]; omega
        simp only [rd, hb2, cond_true, this, hc i hi k hk]
      exact ⟨fun {lw lp} => h1, by simp only [ldA, hlt, cond_true, h1]⟩
end
abbrev Ch.z : Ch := ⟨0, 0, 0, 0⟩
theorem getD_ch (l : List Ch) {i : Nat} (hi : i < l.length) : (l.map Ch.vs).getD i [] = (l.getD i Ch.z).vs := by simp [List.getD, hi]
abbrev IsCh (ro : List ABlk) (h : Heap) (v : AVal) (l : List Ch) : Prop := IsL ro h v 4 (l.map Ch.vs)
theorem at_ch {ro : List ABlk} {h : Heap} {v : AVal} {l : List Ch} (a : IsCh ro h v l) {i : Nat} (hi : i < l.length) : ∃ q : Vm.Loc, evP .e (.ixS 4 (.c v) (.c (.i .i64 (i : Int)))) = some (.p (some q)) ∧ ∀ {hp : Heap}, Keep h hp →
    (∀ {lw lp : Nat}, ldM ro ⟨hp, lw, lp⟩ false 4 (.p (some q)) = some (l.getD i Ch.z).v) ∧ ldA ro hp false 4 (.p (some q)) = some (l.getD i Ch.z).v := by
  obtain ⟨q, h1, h2⟩ := at_L a (i := i) (by simpa using hi)
  refine ⟨q, h1, fun {hp} kp => ?_⟩
  obtain ⟨h3, h4, -⟩ := h2 kp
  rw [getD_ch l hi] at h3 h4
  exact ⟨h3, h4⟩
theorem len_ch {ro : List ABlk} {h : Heap} {v : AVal} {l : List Ch} (a : IsCh ro h v l) : evP .e (.len false (.c v)) = some (.i .i64 l.length) := by
  have := len_L a; rwa [List.length_map] at this
/-- a list made of given changes -/
theorem new_L {ro : List ABlk} {hp : Heap} {e es : Nat} {X : List (List AVal)} (h : ∀ x ∈ X, x.length = es) (cap : Cap) : IsL ro (hp ++ [some (blkOf e X.flatten)]) (.sl ⟨false, hp.length, 0⟩ X.length cap) es X := by
  refine ⟨h, .inr (.inr ⟨⟨false, hp.length, 0⟩, cap, blkOf e X.flatten, rfl, rdB_heap (lget_last _ _) 0, ?_, fun j hj i hi => ?_⟩)⟩
  · show 0 + X.length * es ≤ X.flatten.length
    rw [flat_len h]; omega
  · rw [Nat.zero_add, get_blk, flat_get h hj hi]

theorem all_fold {α : Type} {p : α → Bool} {d : α} (l : List α) : (∀ i, i < l.length → p (l.getD i d) = true) ↔ l.all p = true := by
  rw [List.all_eq_true]
  constructor
  · intro h x hx
    obtain ⟨i, hi, rfl⟩ := List.mem_iff_getElem.1 hx
    have := h i hi
    simpa [List.getD, hi] using this
  · intro h i hi
    exact h _ (by simp [List.getD, hi])

section
variable {ro : List ABlk} {h : Heap}
end
end Go.Proofs.Ythcadkmfbgonjaa.T

/- Three: by the program and by the reference. -/
open Go.Vm
set_option linter.unusedVariables false
namespace Go.Proofs.Ythcadkmfbgonjaa.T
open Go

section
variable {ro : List ABlk} {h hp : Heap} {l p : Nat}
theorem bsl1 (a : Ch) : stepM ro ⟨hp, l, p⟩ (.bsl 24 4 zC 1 [((0, 4), .c a.v)]) = some (.sl ⟨false, hp.length, 0⟩ 1 (.known 1), ⟨hp ++ [some (blkOf 24 (([a].map Ch.vs).flatten))], l, p⟩) := rfl
theorem is_bsl (L : List Ch) (cap : Cap) : IsCh ro (hp ++ [some (blkOf 24 ((L.map Ch.vs).flatten))]) (.sl ⟨false, hp.length, 0⟩ L.length cap) L := by
  have := new_L (ro := ro) (hp := hp) (e := 24) (es := 4) (X := L.map Ch.vs) (fun x hx => by obtain ⟨c, -, rfl⟩ := List.mem_map.1 hx; rfl) cap
  rwa [List.length_map] at this
end
end Go.Proofs.Ythcadkmfbgonjaa.T

/- Three by the reference; turned twice in either order is the same; the law NoteThree. -/
open Go.Vm
set_option linter.unusedVariables false
namespace Go.Proofs.Ythcadkmfbgonjaa.T
open Go

section
variable {ro : List ABlk} {h : Heap}
end
end Go.Proofs.Ythcadkmfbgonjaa.T

/- Lists that a function makes by append, of elements of several cells; slices of lists. -/
open Go.Vm
set_option linter.unusedVariables false
namespace Go.Proofs.Ythcadkmfbgonjaa.T
open Go

/-- a list made by append, in a block from L on -/
def GV (hp : Heap) (L e es : Nat) (v : AVal) (X : List (List AVal)) : Prop :=
  (∀ x ∈ X, x.length = es) ∧ ((v = .nsl ∧ X = []) ∨ ∃ b blk, v = .sl ⟨false, b, 0⟩ X.length .grow ∧ 0 < X.length ∧ L ≤ b ∧ lget hp b = some (some blk) ∧ blk.e = e ∧ X.length * es ≤ blk.n ∧ ∀ j, j < X.length → ∀ i, i < es → blk.c.get (j * es + i) = (X.getD j []).getD i und)
theorem GV.nil (hp : Heap) (L e es : Nat) : GV hp L e es .nsl [] := ⟨by simp, .inl ⟨rfl, rfl⟩⟩
theorem GV.by {hp hp' : Heap} {L e es : Nat} {v : AVal} {X : List (List AVal)} (g : GV hp L e es v X) (kp : Keep hp hp') : GV hp' L e es v X := by
  obtain ⟨h0, h | ⟨b, blk, h1, h2, h3, h4, h5⟩⟩ := g
  · exact ⟨h0, .inl h⟩
  · exact ⟨h0, .inr ⟨b, blk, h1, h2, h3, by rw [lget_of (kp.2 b (lget_lt h4))]; exact h4, h5⟩⟩
theorem GV.isL {ro : List ABlk} {hp : Heap} {L e es : Nat} {v : AVal} {X : List (List AVal)} (g : GV hp L e es v X) : IsL ro hp v es X := by
  obtain ⟨h0, h | ⟨b, blk, rfl, h2, h3, h4, h5, h6, h7⟩⟩ := g
  · exact ⟨h0, .inl h⟩
  · exact ⟨h0, .inr (.inr ⟨_, _, blk, rfl, rdB_heap h4 0, by simpa using h6, fun j hj i hi => by rw [Nat.zero_add]; exact h7 j hj i hi⟩)⟩
theorem flat_row {t : Tr} {off es : Nat} : ∀ {X : List (List AVal)}, (∀ x ∈ X, x.length = es) → (∀ j, j < X.length → ∀ i, i < es → t.get (off + j * es + i) = (X.getD j []).getD i und) → t.row off (X.length * es) = X.flatten := by
  intro X h h2
  have hl := flat_len h
  rw [← hl]
  refine row_list X.flatten off fun j hj => ?_
  rw [hl] at hj
  have hes : 0 < es := by
    rcases Nat.eq_zero_or_pos es with h | h
    · subst h; simp at hj
    · exact h
  have e : j = j / es * es + j % es := (Nat.div_add_mod' j es).symm
  have h3 : j / es < X.length := Nat.div_lt_of_lt_mul (by rw [Nat.mul_comm]; exact hj)
  have h4 : j % es < es := Nat.mod_lt _ hes
  have h5 := h2 _ h3 _ h4
  rw [show off + j / es * es + j % es = off + j by omega] at h5
  rw [h5]
  have := flat_get h h3 h4
  rw [← e] at this
  exact this.symm
theorem src_L {ro : List ABlk} {h : Heap} {v : AVal} {es : Nat} {X : List (List AVal)} (a : IsL ro h v es X) : app_src ro h es v = some (X.flatten, X.length) := by
  obtain ⟨h0, ⟨rfl, rfl⟩ | ⟨rfl, rfl⟩ | ⟨q, cap, blk, rfl, hb, hn, hc⟩⟩ := a
  · rfl
  · rfl
  · have hble : Nat.ble (q.off + X.length * es) blk.n = true := by rw [Nat.ble_eq]; exact hn
    simp only [app_src, hb, hble, cond_true]
    rw [flat_row h0 hc]
theorem ones_flat {X : List (List AVal)} (h : ∀ x ∈ X, ones x = true) : ones X.flatten = true := by
  have app : ∀ (a b : List AVal), ones a = true → ones b = true → ones (a ++ b) = true := by
    intro a b ha hb
    induction a with
    | nil => exact hb
    | cons v a ih =>
      simp only [ones, Bool.and_eq_true] at ha
      simp only [List.cons_append, ones, Bool.and_eq_true]
      exact ⟨ha.1, ih ha.2⟩
  induction X with
  | nil => rfl
  | cons x X ih => rw [List.flatten_cons]; exact app _ _ (h x (by simp)) (ih fun y hy => h y (by simp [hy]))
section
variable {ro : List ABlk} {hp : Heap} {L0 L e es bytes : Nat} {z : List AVal} {v w : AVal} {X Y : List (List AVal)}
/-- appended to a list that is nil, or whose room is used up: new memory -/
theorem app_full (a : IsL ro hp v es X) (hv : v = .nsl ∨ ∃ q, v = .sl q X.length (.known X.length)) (y : IsL ro hp w es Y) (hY : Y ≠ []) (hn : X.length + Y.length ≤ 1000000) (hb : bytes ≤ 1000) (hL : L ≤ hp.length) :
    ∃ u, stepM ro ⟨hp, L0, L0⟩ (.app e es bytes z (.c v) (.c w)) = some (u, ⟨hp ++ [some (blkOf e (X ++ Y).flatten)], L0, L0⟩) ∧ GV (hp ++ [some (blkOf e (X ++ Y).flatten)]) L e es u (X ++ Y) ∧ u = .sl ⟨false, hp.length, 0⟩ (X ++ Y).length .grow := by
  have hXY : ∀ x ∈ X ++ Y, x.length = es := fun x hx => by
    rcases List.mem_append.1 hx with h | h
    · exact a.1 x h
    · exact y.1 x h
  have hYl : 0 < Y.length := List.length_pos_iff.2 hY
  have hY0 : Nat.beq Y.length 0 = false := by
    cases h : Nat.beq Y.length 0
    · rfl
    · have := Nat.eq_of_beq_eq_true h; omega
  have g : GV (hp ++ [some (blkOf e (X ++ Y).flatten)]) L e es (.sl ⟨false, hp.length, 0⟩ (X ++ Y).length .grow) (X ++ Y) := by
    refine ⟨hXY, .inr ⟨hp.length, blkOf e (X ++ Y).flatten, rfl, by rw [List.length_append]; omega, hL, lget_last _ _, rfl, ?_, fun j hj i hi => ?_⟩⟩
    · show (X ++ Y).length * es ≤ (X ++ Y).flatten.length
      rw [flat_len hXY]; exact Nat.le_refl _
    · rw [get_blk, flat_get hXY hj hi]
  have hl : (X ++ Y).length = X.length + Y.length := List.length_append
  have hfl : (X ++ Y).flatten = X.flatten ++ Y.flatten := List.flatten_append
  refine ⟨_, ?_, g, rfl⟩
  rcases hv with rfl | ⟨q, rfl⟩
  · obtain ⟨h0, ⟨-, rfl⟩ | ⟨h, -⟩ | ⟨q, cap, blk, h, -⟩⟩ := a
    · simp only [stepM, stepK, opd, st_app, src_L y, hY0, cond_false, fits_small (by simp at hn; omega : Y.length ≤ 1000000) hb, cond_true, newB, St.mm, List.nil_append]
    · cases h
    · cases h
  · obtain ⟨h0, ⟨h, -⟩ | ⟨h, -⟩ | ⟨q', cap, blk, h, hbk, hn', hc⟩⟩ := a
    · cases h
    · cases h
    · cases h
      have h1 : Nat.ble (X.length + Y.length) X.length = false := by
        cases h : Nat.ble (X.length + Y.length) X.length
        · rfl
        · have := Nat.le_of_ble_eq_true h; omega
      have h2 : Nat.ble (q.off + X.length * es) blk.n = true := by rw [Nat.ble_eq]; exact hn'
      simp only [stepM, stepK, opd, st_app, src_L y, app_known, h1, cond_false, hbk, h2, fits_small hn hb, Bool.and_self, cond_true, newB, St.mm, flat_row h0 hc]
      rw [hl, hfl]
/-- appended to a list made by append -/
theorem GV.app (g : GV hp L e es v X) (hX : X ≠ []) (y : IsL ro hp w es Y) (hL0 : L0 ≤ L) (hL : L ≤ hp.length) (hn : X.length + Y.length ≤ 1000000) (hb : bytes ≤ 1000) (hes : 0 < es) (ho : ∀ x ∈ Y, ones x = true) :
    ∃ u hp', stepM ro ⟨hp, L0, L0⟩ (.app e es bytes z (.c v) (.c w)) = some (u, ⟨hp', L0, L0⟩) ∧ GV hp' L e es u (X ++ Y) ∧ hp.length ≤ hp'.length ∧ ∀ i, i < hp.length → (∀ b n c, v = .sl ⟨false, b, 0⟩ n c → b ≠ i) → hp'[i]? = hp[i]? := by
  obtain ⟨h0, ⟨-, rfl⟩ | ⟨b, blk, rfl, hpos, hLb, hbk, hbe, hbn, hrows⟩⟩ := g
  · exact absurd rfl hX
  have hXY : ∀ x ∈ X ++ Y, x.length = es := fun x hx => by
    rcases List.mem_append.1 hx with h | h
    · exact h0 x h
    · exact y.1 x h
  have hl : (X ++ Y).length = X.length + Y.length := List.length_append
  have hfl : (X ++ Y).flatten = X.flatten ++ Y.flatten := List.flatten_append
  cases hY0 : Nat.beq Y.length 0
  · have h1 : (Nat.beq blk.e e && Nat.ble (X.length * es) blk.n && fits (X.length + Y.length) bytes && ones Y.flatten) = true := by
      rw [hbe, fits_small hn hb, ones_flat ho]
      simp [Nat.ble_eq]; exact hbn
    have hYn : ¬ Y.length = 0 := fun h => by rw [h] at hY0; cases hY0
    have h2 : (false || !Nat.beq 0 0 || false) = false := rfl
    have h3 : Nat.blt 0 blk.n = true := by
      rw [Nat.blt_eq]
      have : 0 < X.length * es := Nat.mul_pos hpos hes
      omega
    have hrow : blk.c.row 0 (X.length * es) = X.flatten := flat_row h0 fun j hj i hi => by rw [Nat.zero_add]; exact hrows j hj i hi
    have hlt := lget_lt hbk
    refine ⟨.sl ⟨false, hp.length, 0⟩ (X.length + Y.length) .grow, lset none hp b ++ [some (blkOf e (X.flatten ++ Y.flatten))], ?_, ⟨hXY, .inr ⟨hp.length, blkOf e (X.flatten ++ Y.flatten), by rw [hl], by omega, hL, ?_, rfl, ?_, fun j hj i hi => ?_⟩⟩, by simp [lset_eq], fun i hi hne => ?_⟩
    · simp only [stepM, stepK, opd, st_app, src_L y, app_grow, hY0, h2, cond_false, hbk, h1, h3, Bool.and_self, cond_true, St.mm, hrow, Nat.min_eq_left (Nat.le_trans hL0 hLb)]
    · rw [lget_eq, lset_eq, List.getElem?_append_right (by simp)]; simp
    · show _ ≤ (X.flatten ++ Y.flatten).length
      rw [← hfl, flat_len hXY]; exact Nat.le_refl _
    · rw [get_blk, ← hfl, flat_get hXY hj hi]
    · rw [lset_eq, List.getElem?_append_left (by simpa using hi), List.getElem?_set_ne (hne b _ _ rfl)]
  · have : Y = [] := List.length_eq_zero_iff.1 (Nat.eq_of_beq_eq_true hY0)
    subst this
    refine ⟨.sl ⟨false, b, 0⟩ X.length .grow, hp, ?_, by rw [List.append_nil]; exact ⟨h0, .inr ⟨b, blk, rfl, hpos, hLb, hbk, hbe, hbn, hrows⟩⟩, Nat.le_refl _, fun _ _ _ => rfl⟩
    simp only [stepM, stepK, opd, st_app, src_L y, List.length_nil, (Nat.beq_refl 0), cond_true, St.mm]

end
end Go.Proofs.Ythcadkmfbgonjaa.T

/- Sheets: their errors, a copy of one, one change more. -/
open Go.Vm
set_option linter.unusedVariables false
namespace Go.Proofs.Ythcadkmfbgonjaa.T
open Go

abbrev Cl.v (c : Cl) : AVal := .agg c.vs
abbrev Cl.z : Cl := ⟨0, false⟩
abbrev IsS (ro : List ABlk) (h : Heap) (v : AVal) (s : List Cl) : Prop := IsL ro h v 2 (s.map Cl.vs)
def letB (x : Int) : Bool := decide (97 ≤ x ∧ x ≤ 122)
/-- the error of a sheet -/
def errS (s : List Cl) : Int := if 300 < s.length then 3 else if s.all (fun c => letB c.l) then 0 else 2
theorem getD_cl (s : List Cl) {i : Nat} (hi : i < s.length) : (s.map Cl.vs).getD i [] = (s.getD i Cl.z).vs := by simp [List.getD, hi]
section
variable {ro : List ABlk} {h hp : Heap} {v : AVal} {s : List Cl}
theorem len_S (a : IsS ro h v s) : evP .e (.len false (.c v)) = some (.i .i64 s.length) := by
  have := len_L a; rwa [List.length_map] at this
theorem at_S (a : IsS ro h v s) {i : Nat} (hi : i < s.length) : ∃ q : Vm.Loc, evP .e (.ixS 2 (.c v) (.c (.i .i64 (i : Int)))) = some (.p (some q)) ∧ ∀ {hp : Heap}, Keep h hp →
    (∀ {lw lp : Nat}, ldM ro ⟨hp, lw, lp⟩ false 2 (.p (some q)) = some (s.getD i Cl.z).v) ∧ ldA ro hp false 2 (.p (some q)) = some (s.getD i Cl.z).v ∧
    (∀ {lw lp : Nat}, ldM ro ⟨hp, lw, lp⟩ true 1 (.p (some ⟨q.ro, q.b, q.off + 0⟩)) = some (.i .u8 (s.getD i Cl.z).l)) ∧ (∀ {lw lp : Nat}, ldM ro ⟨hp, lw, lp⟩ true 1 (.p (some ⟨q.ro, q.b, q.off + 1⟩)) = some (.b (s.getD i Cl.z).hd)) := by
  obtain ⟨q, h1, h2⟩ := at_L a (i := i) (by simpa using hi)
  refine ⟨q, h1, fun {hp} kp => ?_⟩
  obtain ⟨h3, h4, h5⟩ := h2 kp
  obtain ⟨h6, -⟩ := h5 0 (by omega)
  obtain ⟨h7, -⟩ := h5 1 (by omega)
  rw [getD_cl s hi] at h3 h4 h6 h7
  exact ⟨h3, h4, h6, h7⟩
theorem bxs {l p : Nat} (c : Cl) : ∃ hp', stepM ro ⟨hp ++ [some (blkOf 31 [(AVal.i IntKind.u8 0), (AVal.b false)])], l, p⟩ (.st 2 (.c (.p (some ⟨false, hp.length, 0⟩))) (.c c.v)) = some (und, ⟨hp', min l hp.length, p⟩) ∧ Holds hp' hp.length c.vs ∧ Keep hp hp' ∧ hp'.length = hp.length + 1 := by
  have hb : lget (hp ++ [some (blkOf 31 [(AVal.i IntKind.u8 0), (AVal.b false)])]) hp.length = some (some (blkOf 31 [(AVal.i IntKind.u8 0), (AVal.b false)])) := lget_last _ _
  have hw := wrH_all hb (vs := c.vs) (by show 2 ≤ 2; omega) rfl
  refine ⟨(hp ++ [some (blkOf 31 [(AVal.i IntKind.u8 0), (AVal.b false)])]).set hp.length (some { blkOf 31 [(AVal.i IntKind.u8 0), (AVal.b false)] with c := (blkOf 31 [(AVal.i IntKind.u8 0), (AVal.b false)]).c.splice 0 c.vs }), ?_, ⟨_, lget_set hb _, rfl, fun j hj => ?_⟩, ?_, by simp⟩
  · have e : AVal.cells c.v = c.vs := rfl
    have hn : nonp c.vs = true := rfl
    have hbq : Nat.beq c.vs.length 2 = true := rfl
    simp only [stepM, stepK, opd, st_st, e, hbq, cond_true, hw, hn, St.mm]
  · show ((blkOf 31 [(AVal.i IntKind.u8 0), (AVal.b false)]).c.splice 0 c.vs).get j = _
    rw [spliceGet, if_pos (by omega)]; simp
  · exact (Keep.app _).set (Nat.le_refl _) _

theorem fin_err {H : Heap} (k : Keep h H) (e : Int) : finM h.length (.i .i64 e) ⟨H, h.length, h.length⟩ = some (.i .i64 e, h, h.length, h.length) := fin_keep k rfl
theorem g61_c (a : IsS ro h v s) (hn : s.length ≤ 1000000) : callX G1 ro 61 [v] h = some (.i .i64 (errS s), h, h.length, h.length) := by
  refine g61_ok (meansX_ok _ ro) (Oc_none rfl rfl rfl rfl) ?_
  unfold g61
  simp only [len_S a, oS, asI_i, forceB_eq, ltI_eq, tupA, meansX_loop]
  unfold errS
  by_cases hl : 300 < s.length
  · rw [if_pos hl, dT (by omega), cT]
    exact fin_err (Keep.refl h) 3
  rw [if_neg hl, dF (by omega), cF]
  have e0 : ((0 : Nat) : Int) = 0 := rfl
  have hloop := loop_upto (b := fun t : Int × Mm => g61_b0 (meansX G1 ro) ro v (s.length : Int) t.1 t.2) s.length (fun i m => ∃ H, m = ⟨H, h.length, h.length⟩ ∧ Keep h H ∧ ∀ j, j < i → letB (s.getD j Cl.z).l = true) (fun r => ∃ H, r = (2, ⟨H, h.length, h.length⟩) ∧ Keep h H ∧ s.all (fun c => letB c.l) = false) ?_ ?_ s.length 0 ⟨h, h.length, h.length⟩ (by omega) ⟨h, rfl, Keep.refl h, fun j hj => by omega⟩
  · simp only [e0] at hloop
    obtain ⟨o, h1, h2⟩ := hloop
    rw [bindO_of h1]
    rcases h2 with ⟨m', rfl, H, rfl, k, hall⟩ | ⟨r, rfl, H, rfl, k, hall⟩
    · rw [if_pos ((all_fold (d := Cl.z) s).1 hall)]
      exact fin_err k 0
    · rw [hall]
      exact fin_err k 2
  · rintro i m hi ⟨H, rfl, k, hall⟩
    obtain ⟨q, h1, h2⟩ := at_S a hi
    obtain ⟨h3, -⟩ := h2 k
    obtain ⟨H', w1, w2, w3, w4⟩ := bxs (ro := ro) (hp := H) (l := h.length) (p := h.length) (s.getD i Cl.z)
    rw [Nat.min_eq_left k.1] at w1
    have k' := k.trans w3
    have hc : callM (callX G1 ro) ⟨H', h.length, h.length⟩ 76 [.i .u8 (s.getD i Cl.z).l] = some (.b (letB (s.getD i Cl.z).l), ⟨H', h.length, h.length⟩) := cp (k76 _) k'.1 k'.1
    have hrd : ldM ro ⟨H', h.length, h.length⟩ true 1 (.p (some ⟨false, H.length, 0⟩)) = some (.i .u8 (s.getD i Cl.z).l) := w2.one (k := 0) (by show 0 < 2; omega)
    have step : g61_b0 (meansX G1 ro) ro v (s.length : Int) (i : Int) ⟨H, h.length, h.length⟩ = cond (!letB (s.getD i Cl.z).l) (some (.inr (.inr (2, ⟨H', h.length, h.length⟩)))) (some (.inl (((i + 1 : Nat) : Int), ⟨H', h.length, h.length⟩))) := by
      unfold g61_b0
      simp only [forceB_eq, ltI_eq, lt_yes hi, cT, h1, h3, oS, al_ok, pS]
      rw [bindP_of w1]
      simp only [fS, hrd, oS, asI_i, meansX_call]
      rw [bindP_of hc]
      simp only [asB_b, forceI_eq, wr_next (by omega : i ≤ 1000000)]
    cases hb : letB (s.getD i Cl.z).l
    · refine .inr ⟨(2, ⟨H', h.length, h.length⟩), ?_, H', rfl, k', ?_⟩
      · show g61_b0 _ _ _ _ _ _ = _
        rw [step, hb]; rfl
      · have hm : s.getD i Cl.z ∈ s := by simp [List.getD, hi]
        cases ha : s.all (fun c => letB c.l)
        · rfl
        · have := List.all_eq_true.1 ha _ hm
          rw [hb] at this; cases this
    · refine .inl ⟨⟨H', h.length, h.length⟩, ?_, H', rfl, k', fun j hj => ?_⟩
      · show g61_b0 _ _ _ _ _ _ = _
        rw [step, hb]; rfl
      · rcases Nat.lt_or_ge j i with h9 | h9
        · exact hall j h9
        · obtain rfl : j = i := by omega
          exact hb
  · rintro m ⟨H, rfl, k, hall⟩
    show g61_b0 _ _ _ _ _ _ = _
    unfold g61_b0
    simp only [forceB_eq, ltI_eq, lt_no, cF]
theorem g58_c (a : IsS ro h v s) (hn : s.length ≤ 1000000) : callX G1 ro 58 [v] h = some (.i .i64 (errS s), h, h.length, h.length) := by
  refine g58_ok (meansX_ok _ ro) (Oc_none rfl rfl rfl rfl) ?_
  unfold g58
  simp only [len_S a, oS, asI_i, forceB_eq, ltI_eq, tupA, meansX_loop]
  unfold errS
  by_cases hl : 300 < s.length
  · rw [if_pos hl, dT (by omega), cT]
    exact fin_err (Keep.refl h) 3
  rw [if_neg hl, dF (by omega), cF]
  have e0 : ((0 : Nat) : Int) = 0 := rfl
  have step : ∀ i : Nat, i < s.length → g58_b0 (meansX G1 ro) ro v ⟨h, h.length, h.length⟩ (i : Int) = cond (!letB (s.getD i Cl.z).l) (some (.inr (.inr 2))) (some (.inl ((i + 1 : Nat) : Int))) := fun i hi => by
    obtain ⟨q, h1, h2⟩ := at_S a hi
    obtain ⟨-, -, h3, -⟩ := h2 (Keep.refl h)
    have hq : evP .e (.faddr 0 (.c (.p (some q)))) = some (.p (some ⟨q.ro, q.b, q.off + 0⟩)) := rfl
    unfold g58_b0
    simp only [len_S a, oS, asI_i, forceB_eq, ltI_eq, lt_yes hi, cT, h1, hq, h3, forceI_eq, wr_next (by omega : i ≤ 1000000)]
    have e : letB (s.getD i Cl.z).l = (!decide ((s.getD i Cl.z).l < 97) && !decide (122 < (s.getD i Cl.z).l)) := by unfold letB; rw [Bool.eq_iff_iff]; simp
    rw [e]
    cases decide ((s.getD i Cl.z).l < 97) <;> cases decide (122 < (s.getD i Cl.z).l) <;> rfl
  have hloop := loop_if (b := fun t : Int => g58_b0 (meansX G1 ro) ro v ⟨h, h.length, h.length⟩ t) (fun i => (i : Int)) s.length (fun i => letB (s.getD i Cl.z).l = true) (.inl ()) (.inr 2) ?_ ?_ ?_
  · simp only [e0] at hloop
    rw [bindO_of hloop]
    by_cases hall : s.all (fun c => letB c.l) = true
    · rw [if_pos ((all_fold (d := Cl.z) s).2 hall), if_pos hall]
      exact fin_err (Keep.refl h) 0
    · rw [if_neg fun hh => hall ((all_fold (d := Cl.z) s).1 hh), if_neg hall]
      exact fin_err (Keep.refl h) 2
  · show g58_b0 _ _ _ _ _ = _
    unfold g58_b0
    simp only [len_S a, oS, asI_i, forceB_eq, ltI_eq, lt_no, cF]
  · intro i hi hp
    show g58_b0 _ _ _ _ _ = _
    rw [step i hi, hp]; rfl
  · intro i hi hp
    have hp' : letB (s.getD i Cl.z).l = false := by simpa using hp
    show g58_b0 _ _ _ _ _ = _
    rw [step i hi, hp']; rfl

/-- a block that holds a sheet -/
def HS (hp : Heap) (b : Nat) (s : List Cl) : Prop := ∃ blk : ABlk, lget hp b = some (some blk) ∧ s.length * 2 ≤ blk.n ∧ ∀ j, j < s.length → ∀ i, i < 2 → blk.c.get (j * 2 + i) = (s.getD j Cl.z).vs.getD i und
theorem HS.by {b : Nat} {hp' : Heap} (a : HS hp b s) (k : Keep hp hp') : HS hp' b s := by
  obtain ⟨blk, h1, h2⟩ := a
  exact ⟨blk, by rw [lget_of (k.2 b (lget_lt h1))]; exact h1, h2⟩
theorem rep_flat (z : List AVal) : ∀ n, rep z n = (List.replicate n z).flatten
  | 0 => rfl
  | n + 1 => by rw [rep, rep_flat z n, List.replicate_succ, List.flatten_cons]
end
end Go.Proofs.Ythcadkmfbgonjaa.T

/- One change made in a sheet, by the program and by the reference. -/
open Go.Vm
set_option linter.unusedVariables false
namespace Go.Proofs.Ythcadkmfbgonjaa.T
open Go

/-- a sheet in new memory -/
def NewS (hp : Heap) (L : Nat) (u : AVal) (s : List Cl) : Prop := (u = .nsl ∧ s = []) ∨ ∃ b c, u = .sl ⟨false, b, 0⟩ s.length c ∧ L ≤ b ∧ HS hp b s ∧ (c = .grow ∨ c = .known s.length)
section
variable {ro : List ABlk} {h hp hp' : Heap} {v w u : AVal} {s t : List Cl} {L L0 : Nat}
theorem NewS.by (a : NewS hp L u s) (k : Keep hp hp') : NewS hp' L u s := by
  rcases a with h | ⟨b, c, h1, h2, h3, h4⟩
  · exact .inl h
  · exact .inr ⟨b, c, h1, h2, h3.by k, h4⟩
/-- appended to a list made by append, or to nil -/
theorem GV.more {e es bytes : Nat} {z : List AVal} {X Y : List (List AVal)} (g : GV hp L e es v X) (y : IsL ro hp w es Y) (hL0 : L0 ≤ L) (hL : L ≤ hp.length) (hn : X.length + Y.length ≤ 1000000) (hb : bytes ≤ 1000) (hes : 0 < es) (ho : ∀ x ∈ Y, ones x = true) :
    ∃ u hp', stepM ro ⟨hp, L0, L0⟩ (.app e es bytes z (.c v) (.c w)) = some (u, ⟨hp', L0, L0⟩) ∧ GV hp' L e es u (X ++ Y) ∧ hp.length ≤ hp'.length ∧ ∀ i, i < hp.length → (∀ b n c, v = .sl ⟨false, b, 0⟩ n c → b ≠ i) → hp'[i]? = hp[i]? := by
  by_cases hX : X = []
  · subst hX
    obtain ⟨h0, ⟨rfl, -⟩ | ⟨b, blk, -, h2, -⟩⟩ := g
    · by_cases hY : Y = []
      · subst hY
        refine ⟨.nsl, hp, ?_, GV.nil _ _ _ _, Nat.le_refl _, fun _ _ _ => rfl⟩
        have hb0 : Nat.beq 0 0 = true := rfl
        simp only [stepM, stepK, opd, st_app, src_L y, List.length_nil, hb0, cond_true, St.mm]
      · obtain ⟨u, h1, h2, -⟩ := app_full (ro := ro) (L0 := L0) (e := e) (z := z) (X := []) (v := .nsl) ⟨by simp, .inl ⟨rfl, rfl⟩⟩ (.inl rfl) y hY hn hb hL
        exact ⟨u, _, h1, h2, by simp, fun i hi _ => List.getElem?_append_left hi⟩
    · simp at h2
  · exact g.app hX y hL0 hL hn hb hes ho
theorem keep_gv (a : Keep h hp) (hl : hp.length ≤ hp'.length) (hL : h.length ≤ L) (hgv : ∀ b n c, v = .sl ⟨false, b, 0⟩ n c → L ≤ b) (hk : ∀ i, i < hp.length → (∀ b n c, v = .sl ⟨false, b, 0⟩ n c → b ≠ i) → hp'[i]? = hp[i]?) : Keep h hp' :=
  ⟨Nat.le_trans a.1 hl, fun i hi => by rw [hk i (by have := a.1; omega) fun b n c e h => by have := hgv b n c e; omega, a.2 i hi]⟩
theorem GV.low {e es : Nat} {X : List (List AVal)} (g : GV hp L e es v X) : ∀ b n c, v = .sl ⟨false, b, 0⟩ n c → L ≤ b := by
  intro b n c e'
  obtain ⟨h0, ⟨rfl, -⟩ | ⟨b', blk, rfl, h2, h3, -⟩⟩ := g
  · cases e'
  · cases e'; exact h3
theorem sl_bel {b n : Nat} {c : Cap} (hb : h.length ≤ b) : (AVal.sl ⟨false, b, 0⟩ n c).bel h.length = false := not_bel hb
end
end Go.Proofs.Ythcadkmfbgonjaa.T

/- Two changes of one sheet: made one after the other, in either order, they come out the same. -/
open Go.Vm
set_option linter.unusedVariables false
namespace Go.Proofs.Ythcadkmfbgonjaa.T
open Go

end Go.Proofs.Ythcadkmfbgonjaa.T

/- Sheets compared; Turn, Apply and Cross. -/
open Go.Vm
set_option linter.unusedVariables false
namespace Go.Proofs.Ythcadkmfbgonjaa.T
open Go

theorem list_eq {α : Type} {z : α} {s t : List α} (h : s.length = t.length) : (∀ i, i < s.length → s.getD i z = t.getD i z) ↔ s = t := by
  constructor
  · intro hh
    refine List.ext_getElem h fun i h1 h2 => ?_
    have := hh i h1
    simpa [List.getD, h1, h2] using this
  · rintro rfl i _; rfl
section
variable {ro : List ABlk} {h hp : Heap} {v w : AVal} {s t : List Cl}
theorem beqN (a b : Nat) : (((a : Int)) == (b : Int)) = decide (a = b) := by
  rw [Bool.eq_iff_iff, beq_iff_eq, decide_eq_true_eq]; omega
theorem errS_len (h0 : errS s = 0) : s.length ≤ 300 := by
  unfold errS at h0
  by_cases hl : 300 < s.length
  · rw [if_pos hl] at h0; omega
  · omega
theorem callM_new {F : Tab} {H H' : Heap} {f : Nat} {a : List AVal} {v : AVal} {l : Nat} (e : callX F ro f a H = some (v, H', H.length, H.length)) (hl : l ≤ H.length) : callM (callX F ro) ⟨H, l, l⟩ f a = some (v, ⟨H', l, l⟩) := by
  rw [callM_eq (m := ⟨H, l, l⟩) e]
  simp only [Nat.min_eq_left hl]
end
end Go.Proofs.Ythcadkmfbgonjaa.T

/- Cross, and the law NoteTwo. -/
open Go.Vm
set_option linter.unusedVariables false
namespace Go.Proofs.Ythcadkmfbgonjaa.T
open Go

section
variable {ro : List ABlk} {h hp : Heap} {v w : AVal} {s t : List Cl}
end
end Go.Proofs.Ythcadkmfbgonjaa.T

/- The law NoteTwo. -/
open Go.Vm
set_option linter.unusedVariables false
namespace Go.Proofs.Ythcadkmfbgonjaa.T
open Go

section
variable {ro : List ABlk} {h H : Heap} {v w : AVal} {s t : List Cl}
end
end Go.Proofs.Ythcadkmfbgonjaa.T

/- Cross by the reference, and the law NoteCrosses. -/
open Go.Vm
set_option linter.unusedVariables false
namespace Go.Proofs.Ythcadkmfbgonjaa.T
open Go

section
variable {ro : List ABlk} {h hp H : Heap} {v w u : AVal} {s t : List Cl}
end
end Go.Proofs.Ythcadkmfbgonjaa.T

/- Read. -/
open Go.Vm
set_option linter.unusedVariables false
namespace Go.Proofs.Ythcadkmfbgonjaa.T
open Go

/-- the cells that are seen -/
def visP (s : List Cl) : List Cl := s.filter (fun c => !c.hd)
theorem vis_len (s : List Cl) : (visP s).length ≤ s.length := List.length_filter_le _ _
theorem vis_take (s : List Cl) {i : Nat} (hi : i < s.length) : visP (s.take (i + 1)) = visP (s.take i) ++ (if (s.getD i Cl.z).hd then [] else [s.getD i Cl.z]) := by
  have e : s.take (i + 1) = s.take i ++ [s.getD i Cl.z] := by
    rw [List.take_add_one, List.getElem?_eq_getElem hi]; simp [List.getD, hi]
  rw [e]
  unfold visP
  rw [List.filter_append]
  cases hh : (s.getD i Cl.z).hd
  · rw [if_neg (by simp), List.filter_cons_of_pos (by rw [hh]; rfl)]; rfl
  · rw [if_pos rfl, List.filter_cons_of_neg (by rw [hh]; simp)]; rfl
section
variable {ro : List ABlk} {h hp H : Heap} {v w u : AVal} {s t : List Cl}
theorem err_ne (s : List Cl) : (!(errS s == 0)) = !decide (errS s = 0) := rfl
end
end Go.Proofs.Ythcadkmfbgonjaa.T

/- Clean. -/
open Go.Vm
set_option linter.unusedVariables false
namespace Go.Proofs.Ythcadkmfbgonjaa.T
open Go

section
variable {ro : List ABlk} {h hp H : Heap} {v w u : AVal} {s t : List Cl}
theorem HS.pre {b : Nat} (a : HS hp b (s ++ t)) : HS hp b s := by
  obtain ⟨blk, h1, h2, h3⟩ := a
  rw [List.length_append] at h2 h3
  refine ⟨blk, h1, by omega, fun j hj i hi => ?_⟩
  have e : (s ++ t).getD j Cl.z = s.getD j Cl.z := by rw [List.getD_eq_getElem?_getD, List.getD_eq_getElem?_getD, List.getElem?_append_left hj]
  rw [h3 j (by omega) i hi, e]
end
end Go.Proofs.Ythcadkmfbgonjaa.T

/- Apply by the reference, and the law NoteApplies. -/
open Go.Vm
set_option linter.unusedVariables false
namespace Go.Proofs.Ythcadkmfbgonjaa.T
open Go

section
variable {ro : List ABlk} {h hp H : Heap} {v w u : AVal} {s t : List Cl}
end
end Go.Proofs.Ythcadkmfbgonjaa.T

/- A change across a list: Past. -/
open Go.Vm
set_option linter.unusedVariables false
namespace Go.Proofs.Ythcadkmfbgonjaa.T
open Go

def HR (hp : Heap) (b es : Nat) (X : List (List AVal)) : Prop := ∃ blk : ABlk, lget hp b = some (some blk) ∧ X.length * es ≤ blk.n ∧ ∀ j, j < X.length → ∀ i, i < es → blk.c.get (j * es + i) = (X.getD j []).getD i und
section
variable {ro : List ABlk} {h hp hp' H : Heap} {v w u : AVal} {es b : Nat} {X : List (List AVal)} {l : List Ch}
theorem HR.lt (a : HR hp b es X) : b < hp.length := by obtain ⟨blk, h1, -⟩ := a; exact lget_lt h1
theorem HR.keep (a : HR hp b es X) (k : hp'[b]? = hp[b]?) : HR hp' b es X := by
  obtain ⟨blk, h1, h2⟩ := a
  exact ⟨blk, by rw [lget_of k]; exact h1, h2⟩
theorem HR.by (a : HR hp b es X) (k : Keep hp hp') : HR hp' b es X := a.keep (k.2 b a.lt)
theorem HR.isL (a : HR hp b es X) (h0 : ∀ x ∈ X, x.length = es) (cap : Cap) : IsL ro hp (.sl ⟨false, b, 0⟩ X.length cap) es X := by
  obtain ⟨blk, h1, h2, h3⟩ := a
  exact ⟨h0, .inr (.inr ⟨_, _, blk, rfl, rdB_heap h1 0, by simpa using h2, fun j hj i hi => by rw [Nat.zero_add]; exact h3 j hj i hi⟩)⟩
theorem Keep.one (a : Keep h hp) (hl : hp'.length = hp.length) (ho : ∀ i, i ≠ b → hp'[i]? = hp[i]?) (hb : h.length ≤ b) : Keep h hp' :=
  ⟨by rw [hl]; exact a.1, fun i hi => by rw [ho i (by omega), a.2 i hi]⟩
/-- one row is written -/
theorem put_R {k n L P : Nat} {cap : Cap} {x : List AVal} (a : HR hp b es X) (hx : x.length = es) (ho : ones x = true) (hp0 : nonp x = true) (hn : n = X.length) (hk : k < X.length) :
    ∃ q : Vm.Loc, evP .e (.ixS es (.c (.sl ⟨false, b, 0⟩ n cap)) (.c (.i .i64 (k : Int)))) = some (.p (some q)) ∧
    ∃ hp', stepM ro ⟨hp, L, P⟩ (.st es (.c (.p (some q))) (.c (.agg x))) = some (und, ⟨hp', min L b, P⟩) ∧ HR hp' b es (X.set k x) ∧ hp'.length = hp.length ∧ ∀ i, i ≠ b → hp'[i]? = hp[i]? := by
  subst hn hx
  obtain ⟨blk, h1, h2, h3⟩ := a
  have hblt : Nat.blt k X.length = true := by rw [Nat.blt_eq]; exact hk
  have e : ((k : Int)) = Int.ofNat k := rfl
  have hle : k * x.length + x.length ≤ X.length * x.length := by
    have : (k + 1) * x.length ≤ X.length * x.length := Nat.mul_le_mul_right _ hk
    rwa [Nat.add_mul, Nat.one_mul] at this
  refine ⟨⟨false, b, 0 + k * x.length⟩, by simp only [evP, ev_ixS, opd, e, atI, hblt, cond_true], hp.set b (some { blk with c := blk.c.splice (0 + k * x.length) x }), ?_, ⟨_, lget_set h1 _, by simpa using h2, fun j hj i hi => ?_⟩, by simp, fun i hi => List.getElem?_set_ne (Ne.symm hi)⟩
  · have hw : wrH hp ⟨false, b, 0 + k * x.length⟩ x = some (hp.set b (some { blk with c := blk.c.splice (0 + k * x.length) x })) := by
      have : (Nat.ble (0 + k * x.length + x.length) blk.n && ones x) = true := by
        rw [Bool.and_eq_true, Nat.ble_eq]
        exact ⟨by omega, ho⟩
      simp only [wrH, cond_false, h1, this, cond_true, lset_eq]
    have e2 : AVal.cells (.agg x) = x := rfl
    have hbq : Nat.beq x.length x.length = true := Nat.beq_refl _
    simp only [stepM, stepK, opd, st_st, e2, hbq, cond_true, hw, hp0, St.mm]
  · show (blk.c.splice (0 + k * x.length) x).get (j * x.length + i) = _
    rw [List.length_set] at hj
    rw [spliceGet]
    by_cases hjk : j = k
    · subst hjk
      have hg : (X.set j x).getD j [] = x := by rw [List.getD_eq_getElem?_getD, List.getElem?_set_self hj]; rfl
      rw [hg, if_pos (by omega), show j * x.length + i - (0 + j * x.length) = i by omega]
    · have hg : (X.set k x).getD j [] = X.getD j [] := by
        rw [List.getD_eq_getElem?_getD, List.getD_eq_getElem?_getD, List.getElem?_set_ne (Ne.symm hjk)]
      have hne : ¬ (0 + k * x.length ≤ j * x.length + i ∧ j * x.length + i < 0 + k * x.length + x.length) := by
        rcases Nat.lt_or_ge j k with h9 | h9
        · have : (j + 1) * x.length ≤ k * x.length := Nat.mul_le_mul_right _ h9
          rw [Nat.add_mul, Nat.one_mul] at this
          omega
        · have : (k + 1) * x.length ≤ j * x.length := Nat.mul_le_mul_right _ (by omega)
          rw [Nat.add_mul, Nat.one_mul] at this
          omega
      rw [if_neg hne, h3 j hj i hi, hg]
end
end Go.Proofs.Ythcadkmfbgonjaa.T

/- Turn by the reference, Past twice, and the law NoteTurns. -/
open Go.Vm
set_option linter.unusedVariables false
namespace Go.Proofs.Ythcadkmfbgonjaa.T
open Go

section
variable {ro : List ABlk} {h hp hp' H : Heap} {v w u : AVal} {es b : Nat} {l : List Ch}
theorem eqZ (x : Int) : (!(x == 0)) = !decide (x = 0) := rfl
end
end Go.Proofs.Ythcadkmfbgonjaa.T

/- Lists of changes in new memory; across, for all kinds; over by the reference. -/
open Go.Vm
set_option linter.unusedVariables false
namespace Go.Proofs.Ythcadkmfbgonjaa.T
open Go

def NewC (hp : Heap) (L : Nat) (u : AVal) (l : List Ch) : Prop := (u = .nsl ∧ l = []) ∨ ∃ b c, u = .sl ⟨false, b, 0⟩ l.length c ∧ L ≤ b ∧ HR hp b 4 (l.map Ch.vs)
theorem ch_row {l : List Ch} : ∀ x ∈ l.map Ch.vs, x.length = 4 := fun x hx => by obtain ⟨c, -, rfl⟩ := List.mem_map.1 hx; rfl
theorem ones_ch {l : List Ch} : ∀ x ∈ l.map Ch.vs, ones x = true := fun x hx => by obtain ⟨c, -, rfl⟩ := List.mem_map.1 hx; rfl
section
variable {ro : List ABlk} {h hp hp' H : Heap} {v w u : AVal} {es b L L0 : Nat} {l : List Ch}
theorem NewC.isCh (a : NewC hp L u l) : IsCh ro hp u l := by
  rcases a with ⟨rfl, rfl⟩ | ⟨b, c, rfl, -, hs⟩
  · exact ⟨by simp, .inl ⟨rfl, rfl⟩⟩
  · have := hs.isL (ro := ro) ch_row c
    rwa [List.length_map] at this
theorem NewC.by (a : NewC hp L u l) (k : Keep hp hp') : NewC hp' L u l := by
  rcases a with h | ⟨b, c, h1, h2, h3⟩
  · exact .inl h
  · exact .inr ⟨b, c, h1, h2, h3.by k⟩
theorem NewC.low (a : NewC hp L u l) (hl : L0 ≤ L) : NewC hp L0 u l := by
  rcases a with h | ⟨b, c, h1, h2, h3⟩
  · exact .inl h
  · exact .inr ⟨b, c, h1, by omega, h3⟩
theorem GV.newC {e : Nat} (g : GV hp L e 4 u (l.map Ch.vs)) : NewC hp L u l := by
  obtain ⟨h0, ⟨rfl, h⟩ | ⟨b, blk, rfl, h2, h3, h4, h5, h6, h7⟩⟩ := g
  · exact .inl ⟨rfl, by simpa using h⟩
  · exact .inr ⟨b, .grow, by rw [List.length_map], h3, ⟨blk, h4, h6, h7⟩⟩
end
end Go.Proofs.Ythcadkmfbgonjaa.T

/- Over and Both by the reference. -/
open Go.Vm
set_option linter.unusedVariables false
namespace Go.Proofs.Ythcadkmfbgonjaa.T
open Go

theorem loop_gen {S R : Type} {b : S → Option (S ⊕ R)} (n : Nat) (I : Nat → S → Prop) (Q : R → Prop)
    (hin : ∀ i s, i < n → I i s → ∃ s', b s = some (.inl s') ∧ I (i + 1) s') (hout : ∀ s, I n s → ∃ r, b s = some (.inr r) ∧ Q r) :
    ∀ (k i : Nat) (s : S), i + k = n → I i s → ∃ r, loopX b s = some r ∧ Q r
  | 0, i, s, hk, hi => by
    obtain rfl : i = n := by omega
    obtain ⟨r, h1, h2⟩ := hout s hi
    exact ⟨r, loopX_out h1, h2⟩
  | k + 1, i, s, hk, hi => by
    obtain ⟨s1, h1, h2⟩ := hin i s (by omega) hi
    obtain ⟨r, h3, h4⟩ := loop_gen n I Q hin hout k (i + 1) s1 (by omega) h2
    exact ⟨r, loopX_on h1 h3, h4⟩
theorem range_take {α : Type} (f : Nat → α) {n i : Nat} (hi : i < n) : ((List.range n).map f).take (i + 1) = ((List.range n).map f).take i ++ [f i] := by
  rw [List.take_add_one, List.getElem?_eq_getElem (by simpa using hi)]
  simp
section
variable {ro : List ABlk} {h hp hp' H : Heap} {v w u : AVal} {es b L L0 : Nat} {l m : List Ch}
end
end Go.Proofs.Ythcadkmfbgonjaa.T

/- Both, twice, and the law NoteBoth. -/
open Go.Vm
set_option linter.unusedVariables false
namespace Go.Proofs.Ythcadkmfbgonjaa.T
open Go

section
variable {ro : List ABlk} {h hp hp' H : Heap} {v w u : AVal} {es : Nat} {L L0 : Nat} {a b l m : List Ch}
/-- two lists are the same -/
theorem g31_c (i : IsCh ro h v l) (j : IsCh ro h w m) (hn : l.length ≤ 1000000) : callX G1 ro 31 [v, w] h = some (.b (decide (l = m)), h, h.length, h.length) := by
  refine g31_ok (meansX_ok _ ro) (Oc_none rfl rfl rfl rfl) ?_
  unfold g31
  simp only [len_ch i, len_ch j, oS, asI_i, forceB_eq, eqI_eq, beqN, meansX_loop, tupA]
  by_cases hl : l.length = m.length
  · rw [dT hl, Bool.not_true, cF]
    have e0 : ((0 : Nat) : Int) = 0 := rfl
    have step : ∀ k : Nat, k < l.length → g31_b0 (meansX G1 ro) ro v w ⟨h, h.length, h.length⟩ (k : Int) = cond (!decide (l.getD k Ch.z = m.getD k Ch.z)) (some (.inr (.inr false))) (some (.inl ((k + 1 : Nat) : Int))) := fun k hk => by
      obtain ⟨q, h1, h2⟩ := at_ch i hk
      obtain ⟨-, h3⟩ := h2 (Keep.refl h)
      obtain ⟨q', h1', h2'⟩ := at_ch j (i := k) (by omega)
      obtain ⟨-, h3'⟩ := h2' (Keep.refl h)
      have hs := seq_ch true (l.getD k Ch.z) (m.getD k Ch.z)
      rw [if_pos rfl] at hs
      unfold g31_b0
      simp only [len_ch i, oS, asI_i, forceB_eq, ltI_eq, lt_yes hk, cT, h1, h3, h1', h3', hs, asB_b, forceI_eq, wr_next (by omega : k ≤ 1000000)]
    have hloop := loop_if (b := fun x : Int => g31_b0 (meansX G1 ro) ro v w ⟨h, h.length, h.length⟩ x) (fun i => (i : Int)) l.length (fun k => l.getD k Ch.z = m.getD k Ch.z) (.inl ()) (.inr false) ?_ ?_ ?_
    · simp only [e0] at hloop
      rw [bindO_of hloop]
      by_cases he : l = m
      · rw [if_pos ((list_eq hl).2 he), dT he]
        exact fin_pure rfl
      · rw [if_neg fun hh => he ((list_eq hl).1 hh), dF he]
        exact fin_pure rfl
    · show g31_b0 _ _ _ _ _ _ = _
      unfold g31_b0
      simp only [len_ch i, oS, asI_i, forceB_eq, ltI_eq, lt_no, cF]
    · intro k hk hp
      show g31_b0 _ _ _ _ _ _ = _
      rw [step k hk, dT hp]; rfl
    · intro k hk hp
      show g31_b0 _ _ _ _ _ _ = _
      rw [step k hk, dF hp]; rfl
  · rw [dF hl, Bool.not_false, cT]
    have he : ¬ l = m := fun e => hl (by rw [e])
    rw [dF he]
    exact fin_pure rfl
end
end Go.Proofs.Ythcadkmfbgonjaa.T

/- Both by the program, and the law NoteBoth. -/
open Go.Vm
set_option linter.unusedVariables false
namespace Go.Proofs.Ythcadkmfbgonjaa.T
open Go

section
variable {ro : List ABlk} {h hp hp' H : Heap} {v w u : AVal} {es : Nat} {L L0 : Nat} {a b l m : List Ch}
end
end Go.Proofs.Ythcadkmfbgonjaa.T

/- Lists of changes crossed: the sheets come out the same. -/
open Go.Vm
set_option linter.unusedVariables false
namespace Go.Proofs.Ythcadkmfbgonjaa.T
open Go

end Go.Proofs.Ythcadkmfbgonjaa.T

/- Changes made one after another; the law NoteLists. -/
open Go.Vm
set_option linter.unusedVariables false
namespace Go.Proofs.Ythcadkmfbgonjaa.T
open Go

section
variable {ro : List ABlk} {h hp hp' H : Heap} {v w u v1 v2 : AVal} {L L0 : Nat} {s t : List Cl} {a b l m : List Ch}
theorem NewS.low (a : NewS hp L u s) (hl : L0 ≤ L) : NewS hp L0 u s := by
  rcases a with h | ⟨b, c, h1, h2, h3⟩
  · exact .inl h
  · exact .inr ⟨b, c, h1, by omega, h3⟩
end
end Go.Proofs.Ythcadkmfbgonjaa.T

/- Find. -/
open Go.Vm
set_option linter.unusedVariables false
namespace Go.Proofs.Ythcadkmfbgonjaa.T
open Go

theorem loop_exit {S R : Type} {b : S → Option (S ⊕ R)} (n : Nat) (I : Nat → S → Prop) (Q : R → Prop)
    (hin : ∀ i s, i < n → I i s → (∃ s', b s = some (.inl s') ∧ I (i + 1) s') ∨ ∃ r, b s = some (.inr r) ∧ Q r) (hout : ∀ s, I n s → ∃ r, b s = some (.inr r) ∧ Q r) :
    ∀ (k i : Nat) (s : S), i + k = n → I i s → ∃ r, loopX b s = some r ∧ Q r
  | 0, i, s, hk, hi => by
    obtain rfl : i = n := by omega
    obtain ⟨r, h1, h2⟩ := hout s hi
    exact ⟨r, loopX_out h1, h2⟩
  | k + 1, i, s, hk, hi => by
    rcases hin i s (by omega) hi with ⟨s1, h1, h2⟩ | ⟨r, h1, h2⟩
    · obtain ⟨r, h3, h4⟩ := loop_exit n I Q hin hout k (i + 1) s1 (by omega) h2
      exact ⟨r, loopX_on h1 h3, h4⟩
    · exact ⟨r, loopX_out h1, h2⟩
/-- how many cells before this one are seen -/
def cnt (s : List Cl) (p : Nat) : Nat := (visP (s.take p)).length
theorem cnt_step {s : List Cl} {i : Nat} (hi : i < s.length) : cnt s (i + 1) = cnt s i + if (s.getD i Cl.z).hd then 0 else 1 := by
  unfold cnt
  rw [vis_take s hi, List.length_append]
  cases (s.getD i Cl.z).hd <;> rfl
theorem cnt_all (s : List Cl) : cnt s s.length = (visP s).length := by unfold cnt; rw [List.take_length]
theorem cnt_ex {s : List Cl} : ∀ n, n ≤ s.length → ∀ i, i < cnt s n → ∃ p, p < n ∧ (s.getD p Cl.z).hd = false ∧ cnt s p = i
  | 0, _, i, h => by simp [cnt, visP] at h
  | n + 1, hn, i, h => by
    rw [cnt_step (by omega)] at h
    by_cases h1 : i < cnt s n
    · obtain ⟨p, p1, p2⟩ := cnt_ex n (by omega) i h1
      exact ⟨p, by omega, p2⟩
    · cases hh : (s.getD n Cl.z).hd
      · rw [hh, if_neg (by simp)] at h
        exact ⟨n, by omega, hh, by omega⟩
      · rw [hh, if_pos rfl] at h; omega
theorem cnt_le {s : List Cl} {p : Nat} : ∀ n, p ≤ n → n ≤ s.length → cnt s p ≤ cnt s n
  | 0, h, _ => by
    obtain rfl : p = 0 := by omega
    exact Nat.le_refl _
  | n + 1, h, hn => by
    by_cases e : p = n + 1
    · subst e; exact Nat.le_refl _
    · have := cnt_le (s := s) (p := p) n (by omega) (by omega)
      rw [cnt_step (s := s) (by omega)]; omega
theorem vis_at {s : List Cl} {p : Nat} (hp : p < s.length) (hh : (s.getD p Cl.z).hd = false) : (visP s).getD (cnt s p) Cl.z = s.getD p Cl.z ∧ cnt s p < (visP s).length := by
  have e : visP s = visP (s.take p) ++ [s.getD p Cl.z] ++ visP (s.drop (p + 1)) := by
    have h1 : visP s = visP (s.take (p + 1)) ++ visP (s.drop (p + 1)) := by
      unfold visP
      rw [← List.filter_append, List.take_append_drop]
    rw [h1, vis_take s hp, hh, if_neg (by simp)]
  rw [e]
  unfold cnt
  constructor
  · simp [List.getD]
  · simp
section
variable {ro : List ABlk} {h hp hp' H : Heap} {v w u : AVal} {s t : List Cl}
end
end Go.Proofs.Ythcadkmfbgonjaa.T

/- The law NoteHides. -/
open Go.Vm
set_option linter.unusedVariables false
namespace Go.Proofs.Ythcadkmfbgonjaa.T
open Go

section
variable {ro : List ABlk} {h hp hp' H : Heap} {v w u : AVal} {s t : List Cl}
theorem len_str (l : List UInt8) : evP .e (.len true (.c (.s l))) = some (.i .i64 l.length) := by
  simp [evP, ev_len, opd, mkI_eq]
end
end Go.Proofs.Ythcadkmfbgonjaa.T

/- Find, for every number, twice. -/
open Go.Vm
set_option linter.unusedVariables false
namespace Go.Proofs.Ythcadkmfbgonjaa.T
open Go

/-- what Find answers -/
def FindOk (s : List Cl) (x a e : Int) : Prop :=
  (errS s ≠ 0 ∧ a = 0 ∧ e = errS s) ∨ (errS s = 0 ∧ (∃ p : Nat, p < s.length ∧ (s.getD p Cl.z).hd = false ∧ ((cnt s p : Nat) : Int) = x ∧ a = p ∧ e = 0)) ∨
  (errS s = 0 ∧ x = (visP s).length ∧ a = s.length ∧ e = 0) ∨ (errS s = 0 ∧ (x < 0 ∨ ((visP s).length : Int) < x) ∧ a = 0 ∧ e = 4)
theorem cnt_lt {s : List Cl} {p q : Nat} (hpq : p < q) (hq : q ≤ s.length) (hh : (s.getD p Cl.z).hd = false) : cnt s p < cnt s q := by
  have h1 := cnt_le (s := s) (p := p + 1) q (by omega) hq
  rw [cnt_step (s := s) (by omega), hh, if_neg (by simp)] at h1
  omega
theorem find_one {s : List Cl} {x a e a' e' : Int} (h : FindOk s x a e) (h' : FindOk s x a' e') : a = a' ∧ e = e' := by
  have lt : ∀ p, p < s.length → (s.getD p Cl.z).hd = false → cnt s p < (visP s).length := fun p hp hh => (vis_at hp hh).2
  rcases h with ⟨h0, h1, h2⟩ | ⟨h0, p, p1, p2, p3, p4, p5⟩ | ⟨h0, h1, h2, h3⟩ | ⟨h0, h1, h2, h3⟩ <;>
  rcases h' with ⟨g0, g1, g2⟩ | ⟨g0, q, q1, q2, q3, q4, q5⟩ | ⟨g0, g1, g2, g3⟩ | ⟨g0, g1, g2, g3⟩
  · exact ⟨by omega, by omega⟩
  · exact absurd g0 h0
  · exact absurd g0 h0
  · exact absurd g0 h0
  · exact absurd h0 g0
  · have : p = q := by
      rcases Nat.lt_trichotomy p q with h | h | h
      · have := cnt_lt h (by omega) p2; omega
      · exact h
      · have := cnt_lt h (by omega) q2; omega
    subst this
    exact ⟨by omega, by omega⟩
  · have := lt p p1 p2; omega
  · have := lt p p1 p2; omega
  · exact absurd h0 g0
  · have := lt q q1 q2; omega
  · exact ⟨by omega, by omega⟩
  · omega
  · exact absurd h0 g0
  · have := lt q q1 q2; omega
  · omega
  · exact ⟨by omega, by omega⟩
section
variable {ro : List ABlk} {h hp hp' H : Heap} {v w u : AVal} {s t : List Cl} {x : Int}
theorem cnt_bound {i : Nat} (hi : i ≤ s.length) : cnt s i ≤ s.length := by
  have := cnt_le (s := s) (p := i) s.length hi (Nat.le_refl _)
  rw [cnt_all] at this
  have := vis_len s
  omega
theorem no_hit (hno : ∀ p, p < s.length → (s.getD p Cl.z).hd = false → ((cnt s p : Nat) : Int) ≠ x) (h : ¬ x = ((visP s).length : Int)) : x < 0 ∨ ((visP s).length : Int) < x := by
  rcases Int.lt_or_le x 0 with h1 | h1
  · exact .inl h1
  · refine .inr ?_
    rcases Int.lt_or_le ((visP s).length : Int) x with h2 | h2
    · exact h2
    · exfalso
      have h3 : x.toNat < cnt s s.length := by rw [cnt_all]; omega
      obtain ⟨p, p1, p2, p3⟩ := cnt_ex s.length (Nat.le_refl _) _ h3
      exact hno p p1 p2 (by omega)
theorem find36 (a : IsS ro h v s) (hn : s.length ≤ 100000) : ∃ p e : Int, callX G1 ro 36 [v, .i .i64 x] h = some (.tup [.i .i64 p, .i .i64 e], h, h.length, h.length) ∧ FindOk s x p e := by
  suffices hh : ∃ p e : Int, g36 (meansX G1 ro) ro v x ⟨h, h.length, h.length⟩ = some (.tup [.i .i64 p, .i .i64 e], h, h.length, h.length) ∧ FindOk s x p e by
    obtain ⟨p, e, q1, q2⟩ := hh
    exact ⟨p, e, g36_ok (meansX_ok _ ro) (Oc_none rfl rfl rfl rfl) q1, q2⟩
  unfold g36
  simp only [meansX_call, meansX_loop]
  rw [bindP_of (cp0 (g61_c a (by omega)))]
  simp only [asI_i, forceB_eq, eqI_eq, err_ne, len_S a, oS, tupA]
  by_cases h0 : errS s = 0
  rotate_left
  · rw [dF h0, Bool.not_false, cT]
    exact ⟨0, errS s, fin_keep (Keep.refl h) rfl, .inl ⟨h0, rfl, rfl⟩⟩
  rw [dT h0, Bool.not_true, cF]
  have eqd : ∀ a b : Int, (a == b) = decide (a = b) := fun a b => rfl
  have hloop := loop_exit (b := fun t : Int × Int × Mm => g36_b0 (meansX G1 ro) ro v x (s.length : Int) t.1 t.2.1 t.2.2) s.length
    (fun i t => ∃ H, t = (((cnt s i : Nat) : Int), (i : Int), ⟨H, h.length, h.length⟩) ∧ Keep h H ∧ ∀ p, p < i → (s.getD p Cl.z).hd = false → ((cnt s p : Nat) : Int) ≠ x)
    (fun r => (∃ (p : Nat) (H : Heap), r = .inr ((p : Int), 0, ⟨H, h.length, h.length⟩) ∧ Keep h H ∧ p < s.length ∧ (s.getD p Cl.z).hd = false ∧ ((cnt s p : Nat) : Int) = x) ∨ (∃ H, r = .inl ((((visP s).length : Nat) : Int), ⟨H, h.length, h.length⟩) ∧ Keep h H ∧ ∀ p, p < s.length → (s.getD p Cl.z).hd = false → ((cnt s p : Nat) : Int) ≠ x))
    (fun i t hi ⟨H, e, k, hno⟩ => by
      subst e
      obtain ⟨q, p1, p2⟩ := at_S a hi
      obtain ⟨p3, -⟩ := p2 k
      obtain ⟨H', w1, w2, w3, w4⟩ := bxs (ro := ro) (hp := H) (l := h.length) (p := h.length) (s.getD i Cl.z)
      rw [Nat.min_eq_left k.1] at w1
      have k' := k.trans w3
      have rd1 : ldM ro ⟨H', h.length, h.length⟩ true 1 (.p (some ⟨false, H.length, 1⟩)) = some (.b (s.getD i Cl.z).hd) := w2.one (k := 1) (by show 1 < 2; omega)
      have hle := cnt_bound (s := s) (i := i) (by omega)
      cases hh : (s.getD i Cl.z).hd
      · by_cases hx : ((cnt s i : Nat) : Int) = x
        · refine .inr ⟨.inr ((i : Int), 0, ⟨H', h.length, h.length⟩), ?_, .inl ⟨i, H', rfl, k', hi, hh, hx⟩⟩
          show g36_b0 _ _ _ _ _ _ _ _ = _
          unfold g36_b0
          simp only [forceB_eq, ltI_eq, lt_yes hi, cT, p1, p3, oS, al_ok, pS]
          rw [bindP_of w1]
          simp only [fS, rd1, hh, oS, asB_b, cF, eqI_eq, eqd, dT hx, cT]
        · refine .inl ⟨(((cnt s (i + 1) : Nat) : Int), ((i + 1 : Nat) : Int), ⟨H', h.length, h.length⟩), ?_, H', rfl, k', fun p hp hq => ?_⟩
          · show g36_b0 _ _ _ _ _ _ _ _ = _
            unfold g36_b0
            simp only [forceB_eq, ltI_eq, lt_yes hi, cT, p1, p3, oS, al_ok, pS]
            rw [bindP_of w1]
            simp only [fS, rd1, hh, oS, asB_b, cF, eqI_eq, eqd, dF hx, forceI_eq, wr_next (by omega : i ≤ 1000000), wr_next (by omega : cnt s i ≤ 1000000)]
            rw [cnt_step hi, hh]; rfl
          · by_cases e : p = i
            · subst e; exact hx
            · exact hno p (by omega) hq
      · refine .inl ⟨(((cnt s (i + 1) : Nat) : Int), ((i + 1 : Nat) : Int), ⟨H', h.length, h.length⟩), ?_, H', rfl, k', fun p hp hq => ?_⟩
        · show g36_b0 _ _ _ _ _ _ _ _ = _
          unfold g36_b0
          simp only [forceB_eq, ltI_eq, lt_yes hi, cT, p1, p3, oS, al_ok, pS]
          rw [bindP_of w1]
          simp only [fS, rd1, hh, oS, asB_b, cT, forceI_eq, wr_next (by omega : i ≤ 1000000)]
          rw [cnt_step hi, hh]; rfl
        · by_cases e : p = i
          · subst e; rw [hh] at hq; cases hq
          · exact hno p (by omega) hq)
    (fun t ⟨H, e, k, hno⟩ => by
      subst e
      refine ⟨.inl ((((visP s).length : Nat) : Int), ⟨H, h.length, h.length⟩), ?_, .inr ⟨H, rfl, k, hno⟩⟩
      rw [cnt_all]
      show g36_b0 _ _ _ _ _ _ _ _ = _
      unfold g36_b0
      simp only [forceB_eq, ltI_eq, lt_no, cF]) s.length 0 (0, 0, ⟨h, h.length, h.length⟩) (by omega) ⟨h, rfl, Keep.refl h, fun p hp => by omega⟩
  obtain ⟨r, o1, o2⟩ := hloop
  rw [bindO_of o1]
  rcases o2 with ⟨p, H, rfl, k, p1, p2, p3⟩ | ⟨H, rfl, k, hno⟩
  · exact ⟨_, _, fin_keep k rfl, .inr (.inl ⟨h0, p, p1, p2, p3, rfl, rfl⟩)⟩
  · simp only [eqd]
    by_cases hx : x = ((visP s).length : Int)
    · rw [dT hx.symm, Bool.not_true, cF]
      exact ⟨_, _, fin_keep k rfl, .inr (.inr (.inl ⟨h0, hx, rfl, rfl⟩))⟩
    · rw [dF (fun e => hx e.symm), Bool.not_false, cT]
      exact ⟨_, _, fin_keep k rfl, .inr (.inr (.inr ⟨h0, no_hit hno hx, rfl, rfl⟩))⟩
theorem find37 (a : IsS ro h v s) (hn : s.length ≤ 100000) (hx9 : x ≤ 9223372036854775807) : ∃ p e : Int, callX G1 ro 37 [v, .i .i64 x] h = some (.tup [.i .i64 p, .i .i64 e], h, h.length, h.length) ∧ FindOk s x p e := by
  suffices hh : ∃ p e : Int, g37 (meansX G1 ro) ro v x ⟨h, h.length, h.length⟩ = some (.tup [.i .i64 p, .i .i64 e], h, h.length, h.length) ∧ FindOk s x p e by
    obtain ⟨p, e, q1, q2⟩ := hh
    exact ⟨p, e, g37_ok (meansX_ok _ ro) (Oc_none rfl rfl rfl rfl) q1, q2⟩
  unfold g37
  simp only [meansX_call, meansX_loop]
  rw [bindP_of (cp0 (g58_c a (by omega)))]
  simp only [asI_i, forceB_eq, eqI_eq, err_ne, ltI_eq, len_S a, oS, tupA]
  by_cases h0 : errS s = 0
  rotate_left
  · rw [dF h0, Bool.not_false, cT]
    exact ⟨0, errS s, fin_keep (Keep.refl h) rfl, .inl ⟨h0, rfl, rfl⟩⟩
  rw [dT h0, Bool.not_true, cF]
  by_cases hx0 : x < 0
  · rw [dT hx0, cT]
    exact ⟨_, _, fin_keep (Keep.refl h) rfl, .inr (.inr (.inr ⟨h0, .inl hx0, rfl, rfl⟩))⟩
  rw [dF hx0, cF]
  have eqd : ∀ a b : Int, (a == b) = decide (a = b) := fun a b => rfl
  have hloop := loop_exit (b := fun t : Int × Int => g37_b0 (meansX G1 ro) ro v ⟨h, h.length, h.length⟩ t.1 t.2) s.length
    (fun i t => t = (x - ((cnt s i : Nat) : Int), (i : Int)) ∧ ((cnt s i : Nat) : Int) ≤ x ∧ ∀ p, p < i → (s.getD p Cl.z).hd = false → ((cnt s p : Nat) : Int) ≠ x)
    (fun r => (∃ (p : Nat), r = .inr ((p : Int), 0) ∧ p < s.length ∧ (s.getD p Cl.z).hd = false ∧ ((cnt s p : Nat) : Int) = x) ∨ (r = .inl (x - (((visP s).length : Nat) : Int)) ∧ ((visP s).length : Int) ≤ x ∧ ∀ p, p < s.length → (s.getD p Cl.z).hd = false → ((cnt s p : Nat) : Int) ≠ x))
    (fun i t hi ⟨e, hc, hno⟩ => by
      subst e
      obtain ⟨q, p1, p2⟩ := at_S a hi
      obtain ⟨-, -, -, p4⟩ := p2 (Keep.refl h)
      have f1 : evP .e (.faddr 1 (.c (.p (some q)))) = some (.p (some ⟨q.ro, q.b, q.off + 1⟩)) := rfl
      have hle := cnt_bound (s := s) (i := i) (by omega)
      cases hh : (s.getD i Cl.z).hd
      · by_cases hx : ((cnt s i : Nat) : Int) = x
        · refine .inr ⟨.inr ((i : Int), 0), ?_, .inl ⟨i, rfl, hi, hh, hx⟩⟩
          show g37_b0 _ _ _ _ _ _ = _
          unfold g37_b0
          simp only [len_S a, asI_i, forceB_eq, ltI_eq, lt_yes hi, cT, p1, f1, p4, hh, oS, asB_b, cF, eqI_eq, eqd]
          rw [dT (by omega : x - ((cnt s i : Nat) : Int) = 0)]
          simp only [cT, oS]
        · refine .inl ⟨(x - ((cnt s (i + 1) : Nat) : Int), ((i + 1 : Nat) : Int)), ?_, rfl, ?_, fun p hp hq => ?_⟩
          · show g37_b0 _ _ _ _ _ _ = _
            unfold g37_b0
            simp only [len_S a, asI_i, forceB_eq, ltI_eq, lt_yes hi, cT, p1, f1, p4, hh, oS, asB_b, cF, eqI_eq, eqd, forceI_eq]
            rw [dF (by omega : ¬ x - ((cnt s i : Nat) : Int) = 0), wr_id' (x := x - ((cnt s i : Nat) : Int) - 1) (by omega) (by omega)]
            simp only [cF, oS, wr_next (by omega : i ≤ 1000000)]
            rw [cnt_step hi, hh, if_neg (by simp)]
            have : x - ((cnt s i : Nat) : Int) - 1 = x - ((cnt s i + 1 : Nat) : Int) := by omega
            rw [this]
          · rw [cnt_step hi, hh, if_neg (by simp)]; omega
          · by_cases e : p = i
            · subst e; exact hx
            · exact hno p (by omega) hq
      · refine .inl ⟨(x - ((cnt s (i + 1) : Nat) : Int), ((i + 1 : Nat) : Int)), ?_, rfl, ?_, fun p hp hq => ?_⟩
        · show g37_b0 _ _ _ _ _ _ = _
          unfold g37_b0
          simp only [len_S a, asI_i, forceB_eq, ltI_eq, lt_yes hi, cT, p1, f1, p4, hh, oS, asB_b, forceI_eq, wr_next (by omega : i ≤ 1000000)]
          rw [cnt_step hi, hh, if_pos rfl]; rfl
        · rw [cnt_step hi, hh, if_pos rfl]; exact hc
        · by_cases e : p = i
          · subst e; rw [hh] at hq; cases hq
          · exact hno p (by omega) hq)
    (fun t ⟨e, hc, hno⟩ => by
      subst e
      rw [cnt_all] at hc
      refine ⟨.inl (x - (((visP s).length : Nat) : Int)), ?_, .inr ⟨rfl, hc, hno⟩⟩
      rw [cnt_all]
      show g37_b0 _ _ _ _ _ _ = _
      unfold g37_b0
      simp only [len_S a, oS, asI_i, forceB_eq, ltI_eq, lt_no, cF]) s.length 0 (x, 0) (by omega) ⟨by
        have : cnt s 0 = 0 := rfl
        rw [this]; simp, by
        have : cnt s 0 = 0 := rfl
        rw [this]; omega, fun p hp => by omega⟩
  obtain ⟨r, o1, o2⟩ := hloop
  rw [bindO_of o1]
  rcases o2 with ⟨p, rfl, p1, p2, p3⟩ | ⟨rfl, hc, hno⟩
  · exact ⟨_, _, fin_keep (Keep.refl h) rfl, .inr (.inl ⟨h0, p, p1, p2, p3, rfl, rfl⟩)⟩
  · simp only []
    by_cases hx : x = ((visP s).length : Int)
    · rw [dF (by omega : ¬ 0 < x - ((visP s).length : Int)), cF]
      exact ⟨_, _, fin_keep (Keep.refl h) rfl, .inr (.inr (.inl ⟨h0, hx, rfl, rfl⟩))⟩
    · rw [dT (by omega : 0 < x - ((visP s).length : Int)), cT]
      exact ⟨_, _, fin_keep (Keep.refl h) rfl, .inr (.inr (.inr ⟨h0, no_hit hno hx, rfl, rfl⟩))⟩
end
end Go.Proofs.Ythcadkmfbgonjaa.T

/- Type, twice, and the law NoteTypes. -/
open Go.Vm
set_option linter.unusedVariables false
namespace Go.Proofs.Ythcadkmfbgonjaa.T
open Go

def chr (t : List UInt8) (i : Nat) : Int := ((t.getD i 0).toNat : Int)
def typeF (a : Int) (t : List UInt8) (w : Int) (i : Nat) : Ch := ⟨1, a + (i : Int), chr t i, w⟩
def typeL (a : Int) (t : List UInt8) (w : Int) : List Ch := (List.range t.length).map (typeF a t w)
def typeE (n : Nat) (t : List UInt8) (e w : Int) : Int :=
  if e = 0 then (if 300 < t.length then 3 else if (t.all fun c => letB ((c.toNat : Nat) : Int)) = true then (if 0 ≤ w ∧ w ≤ 4 then (if 300 < n + t.length then 8 else 0) else 2) else 5) else e
def typeV (n : Nat) (a : Int) (t : List UInt8) (e w : Int) : List Ch := cond (decide (typeE n t e w = 0)) (typeL a t w) []
theorem typeL_len (a : Int) (t : List UInt8) (w : Int) : (typeL a t w).length = t.length := by simp [typeL]
theorem ix_str {t : List UInt8} {i : Nat} (hi : i < t.length) : evP .e (.ixStr (.c (.s t)) (.c (.i .i64 (i : Int)))) = some (.i .u8 (chr t i)) := by
  have e : ((i : Int)) = Int.ofNat i := rfl
  have hg : lget t i = some (t.getD i 0) := by rw [lget_eq, List.getElem?_eq_getElem hi]; simp [List.getD, hi]
  simp only [evP, ev_ixStr, opd, e, hg, Option.map_some, mkI_eq, chr]
section
variable {ro : List ABlk} {h hp hp' H : Heap} {v w u : AVal} {s : List Cl} {t : List UInt8} {x a e y : Int} {l : List Ch}
theorem fin_ce (k : Keep h H) (n : NewC H h.length u l) (e : Int) : ∃ H', finM h.length (.tup [u, .i .i64 e]) ⟨H, h.length, h.length⟩ = some (.tup [u, .i .i64 e], H', h.length, h.length) ∧ Keep h H' ∧ NewC H' h.length u l := by
  rcases n with ⟨rfl, rfl⟩ | ⟨b, c, rfl, hb, hs⟩
  · exact ⟨h, fin_keep k rfl, Keep.refl h, .inl ⟨rfl, rfl⟩⟩
  · refine ⟨H, ?_, k, .inr ⟨b, c, rfl, hb, hs⟩⟩
    have : (AVal.tup [.sl ⟨false, b, 0⟩ l.length c, .i .i64 e]).bel h.length = false := by
      have := sl_bel (h := h) (n := l.length) (c := c) hb
      simp only [AVal.bel] at this ⊢
      simp [bels, AVal.bel, this]
    simp only [finM, gc, this, Bool.and_false, Bool.false_eq_true, if_false]
theorem bad_ty {z : Int} (he : typeE s.length t e y = z) (h0 : z ≠ 0) : ∃ u H, finM h.length (.tup [.nsl, .i .i64 z]) ⟨h, h.length, h.length⟩ = some (.tup [u, .i .i64 (typeE s.length t e y)], H, h.length, h.length) ∧ Keep h H ∧ NewC H h.length u (typeV s.length a t e y) := by
  refine ⟨.nsl, h, by rw [he]; exact fin_keep (Keep.refl h) rfl, Keep.refl h, .inl ⟨rfl, ?_⟩⟩
  unfold typeV
  rw [dF (by rw [he]; exact h0)]; rfl
theorem hfaT (p q r : Int) : (fillA [(AVal.i IntKind.i64 0), (AVal.i IntKind.i64 0), (AVal.i IntKind.u8 0), (AVal.i IntKind.i64 0)] [((0, 1), (.i .i64 1)), ((1, 1), (.i .i64 p)), ((2, 1), (.i .u8 q)), ((3, 1), (.i .i64 r))]).map AVal.agg = some (Ch.v ⟨1, p, q, r⟩) := rfl
theorem g39_c (i : IsS ro h v s) (hs : s.length ≤ 1000) (hf : callX G1 ro 37 [v, .i .i64 x] h = some (.tup [.i .i64 a, .i .i64 e], h, h.length, h.length)) (ha : e = 0 → 0 ≤ a ∧ a ≤ 300) (ht : t.length ≤ 1000) :
    ∃ u H, callX G1 ro 39 [v, .i .i64 x, .s t, .i .i64 y] h = some (.tup [u, .i .i64 (typeE s.length t e y)], H, h.length, h.length) ∧ Keep h H ∧ NewC H h.length u (typeV s.length a t e y) := by
  suffices hh : ∃ u H, g39 (meansX G1 ro) ro v x t y ⟨h, h.length, h.length⟩ = some (.tup [u, .i .i64 (typeE s.length t e y)], H, h.length, h.length) ∧ Keep h H ∧ NewC H h.length u (typeV s.length a t e y) by
    obtain ⟨u, H, q1, q2⟩ := hh
    exact ⟨u, H, g39_ok (meansX_ok _ ro) (Oc_none rfl rfl rfl rfl) q1, q2⟩
  unfold g39
  simp only [meansX_call, meansX_loop]
  rw [bindP_of (cp0 hf), bindO_of (ext0 _ _)]
  simp only [asI_i]
  rw [bindO_of (ext1 _ _ _)]
  simp only [asI_i, forceB_eq, eqI_eq, eqZ, tupA, len_str, oS, ltI_eq]
  by_cases h0 : e = 0
  rotate_left
  · rw [dF h0, Bool.not_false, cT]
    exact bad_ty (by unfold typeE; rw [if_neg h0]) h0
  obtain ⟨a0, a1⟩ := ha h0
  rw [dT h0, Bool.not_true, cF]
  by_cases h1 : 300 < t.length
  · rw [dT (by omega : (300 : Int) < (t.length : Int)), cT]
    exact bad_ty (by unfold typeE; rw [if_pos h0, if_pos h1]) (by omega)
  rw [dF (by omega : ¬ (300 : Int) < (t.length : Int)), cF]
  have e0 : ((0 : Nat) : Int) = 0 := rfl
  have step : ∀ k : Nat, k < t.length → g39_b0 (meansX G1 ro) ro v t y a ⟨h, h.length, h.length⟩ (k : Int) = cond (!letB (chr t k)) (some (.inr (.inr (.nsl, 5)))) (some (.inl ((k + 1 : Nat) : Int))) := fun k hk => by
    unfold g39_b0
    simp only [len_str, oS, asI_i, forceB_eq, ltI_eq, lt_yes hk, cT, ix_str hk, forceI_eq, wr_next (by omega : k ≤ 1000000)]
    have e : letB (chr t k) = (!decide (chr t k < 97) && !decide (122 < chr t k)) := by unfold letB; rw [Bool.eq_iff_iff]; simp
    rw [e]
    cases decide (chr t k < 97) <;> cases decide (122 < chr t k) <;> rfl
  have hloop := loop_if (b := fun z : Int => g39_b0 (meansX G1 ro) ro v t y a ⟨h, h.length, h.length⟩ z) (fun i => (i : Int)) t.length (fun k => letB (chr t k) = true) (.inl ()) (.inr (.nsl, 5)) ?_ ?_ ?_
  rotate_left
  · show g39_b0 _ _ _ _ _ _ _ _ = _
    unfold g39_b0
    simp only [len_str, oS, asI_i, forceB_eq, ltI_eq, lt_no, cF]
  · intro k hk hp
    show g39_b0 _ _ _ _ _ _ _ _ = _
    rw [step k hk, hp]; rfl
  · intro k hk hp
    have hp' : letB (chr t k) = false := by simpa using hp
    show g39_b0 _ _ _ _ _ _ _ _ = _
    rw [step k hk, hp']; rfl
  simp only [e0] at hloop
  rw [bindO_of hloop]
  have hall : (∀ k, k < t.length → letB (chr t k) = true) ↔ (t.all fun c => letB ((c.toNat : Nat) : Int)) = true := all_fold (p := fun c : UInt8 => letB ((c.toNat : Nat) : Int)) (d := 0) t
  by_cases h2 : (t.all fun c => letB ((c.toNat : Nat) : Int)) = true
  rotate_left
  · rw [if_neg fun hh => h2 (hall.1 hh)]
    exact bad_ty (by unfold typeE; rw [if_pos h0, if_neg h1, if_neg h2]) (by omega)
  rw [if_pos (hall.2 h2)]
  simp only []
  by_cases h3 : 0 ≤ y ∧ y ≤ 4
  rotate_left
  · have hE : typeE s.length t e y = 2 := by unfold typeE; rw [if_pos h0, if_neg h1, if_pos h2, if_neg h3]
    by_cases h4 : y < 0
    · rw [dT h4]; simp only [cT, oS]
      exact bad_ty hE (by omega)
    · rw [dF h4, dF (by omega : ¬ y < 5)]
      simp only [cF, oS, Bool.not_false, cT]
      exact bad_ty hE (by omega)
  rw [dF (by omega : ¬ y < 0), dT (by omega : y < 5)]
  simp only [cF, oS, Bool.not_true, len_S i, asI_i, forceI_eq]
  rw [wr_id' (x := (s.length : Int) + (t.length : Int)) (by omega) (by omega)]
  by_cases h5 : 300 < s.length + t.length
  · rw [dT (by omega : (300 : Int) < (s.length : Int) + (t.length : Int)), cT]
    exact bad_ty (by unfold typeE; rw [if_pos h0, if_neg h1, if_pos h2, if_pos h3, if_pos h5]) (by omega)
  rw [dF (by omega : ¬ (300 : Int) < (s.length : Int) + (t.length : Int)), cF]
  have hE : typeE s.length t e y = 0 := by unfold typeE; rw [if_pos h0, if_neg h1, if_pos h2, if_pos h3, if_neg h5]
  have hV : typeV s.length a t e y = typeL a t y := by unfold typeV; rw [dT hE]; rfl
  rw [hE, hV]
  have tl := typeL_len a t y
  have hl2 := loop_gen (b := fun z : AVal × Int × Mm => g39_b3 (meansX G1 ro) ro t y a z.1 z.2.1 z.2.2) t.length
    (fun k z => ∃ H c, z = (c, (k : Int), ⟨H, h.length, h.length⟩) ∧ Keep h H ∧ GV H h.length 24 4 c (((typeL a t y).take k).map Ch.vs))
    (fun r => ∃ H c, r = (c, ⟨H, h.length, h.length⟩) ∧ Keep h H ∧ GV H h.length 24 4 c ((typeL a t y).map Ch.vs))
    (fun k z hk ⟨H, c, e, kH, g⟩ => by
      subst e
      obtain ⟨T, hT⟩ : ∃ T, T = typeF a t y k := ⟨_, rfl⟩
      obtain ⟨Hc, ec⟩ : ∃ Hc, Hc = H ++ [some (blkOf 24 (([T].map Ch.vs).flatten))] := ⟨_, rfl⟩
      have kc : Keep H Hc := by rw [ec]; exact Keep.app _
      have sc : stepM ro ⟨H, h.length, h.length⟩ (.bsl 24 4 zC 1 [((0, 4), .c T.v)]) = some (.sl ⟨false, H.length, 0⟩ 1 (.known 1), ⟨Hc, h.length, h.length⟩) := by rw [ec]; exact bsl1 T
      have ic : IsCh ro Hc (.sl ⟨false, H.length, 0⟩ 1 (.known 1)) [T] := by rw [ec]; exact is_bsl [T] _
      have hll : (((typeL a t y).take k).map Ch.vs).length ≤ 10000 := by rw [List.length_map, List.length_take]; omega
      obtain ⟨u, Hd, r1, r2, r3, r4⟩ := (g.by kc).more (ro := ro) (L0 := h.length) (bytes := 32) (z := zC) ic (Nat.le_refl _) (kH.trans kc).1 (by simp at hll ⊢; omega) (by omega) (by omega) ones_ch
      refine ⟨(u, ((k + 1 : Nat) : Int), ⟨Hd, h.length, h.length⟩), ?_, Hd, u, rfl, keep_gv (kH.trans kc) r3 (Nat.le_refl _) (g.by kc).low r4, ?_⟩
      · show g39_b3 _ _ _ _ _ _ _ _ = _
        unfold g39_b3
        simp only [len_str, oS, asI_i, forceB_eq, ltI_eq, lt_yes hk, cT, forceI_eq]
        rw [wr_id' (x := a + (k : Int)) (by omega) (by omega)]
        simp only [ix_str hk, oS, asI_i]
        rw [bindO_of (hfaT _ _ _)]
        have : (⟨1, a + (k : Int), chr t k, y⟩ : Ch) = T := by rw [hT]; rfl
        rw [this, bindP_of sc, bindP_of r1, wr_next (by omega : k ≤ 1000000)]
      · have e : (typeL a t y).take (k + 1) = (typeL a t y).take k ++ [T] := by rw [hT]; exact range_take _ hk
        rw [e, List.map_append]
        exact r2)
    (fun z ⟨H, c, e, kH, g⟩ => by
      subst e
      rw [← tl, List.take_length] at g
      refine ⟨(c, ⟨H, h.length, h.length⟩), ?_, H, c, rfl, kH, g⟩
      show g39_b3 _ _ _ _ _ _ _ _ = _
      unfold g39_b3
      simp only [len_str, oS, asI_i, forceB_eq, ltI_eq, lt_no, cF]) t.length 0 (.nsl, 0, ⟨h, h.length, h.length⟩) (by omega) ⟨h, .nsl, rfl, Keep.refl h, GV.nil _ _ _ _⟩
  obtain ⟨r, o1, H, c, rfl, kH, g⟩ := hl2
  rw [bindO_of o1]
  simp only []
  obtain ⟨Hf, f1, f2, f3⟩ := fin_ce kH g.newC 0
  exact ⟨c, Hf, f1, f2, f3⟩
end
end Go.Proofs.Ythcadkmfbgonjaa.T

/- Type by the program, and the law NoteTypes. -/
open Go.Vm
set_option linter.unusedVariables false
namespace Go.Proofs.Ythcadkmfbgonjaa.T
open Go

theorem vr_str (s : ByteArray) (rl : Rl) : VR rl [] (.s s.data.toList) (.string s) := by
  have h : VR rl [] (.s s.data.toList) (.string ⟨s.data.toList.toArray⟩) := .s _
  simpa using h
theorem i64_le {n : Int} (h : (Lit.int .i64 n).wf = true) : n ≤ 9223372036854775807 := by
  simp only [Lit.wf, Bool.and_eq_true, decide_eq_true_eq] at h
  exact h.2
theorem str_le {s : ByteArray} (h : s.size ≤ maxLen) : s.data.toList.length ≤ 9223372036854775807 := by
  have e : s.data.toList.length = s.size := by rw [Array.length_toList]; rfl
  have : maxLen ≤ 9223372036854775807 := by decide
  omega
section
variable {ro : List ABlk} {h hp hp' H : Heap} {v w u : AVal} {s : List Cl} {t : List UInt8} {x a e y : Int} {l : List Ch}
theorem g38_c (i : IsS ro h v s) (hs : s.length ≤ 1000) (hf : callX G1 ro 36 [v, .i .i64 x] h = some (.tup [.i .i64 a, .i .i64 e], h, h.length, h.length)) (ha : e = 0 → 0 ≤ a ∧ a ≤ 300) (ht : t.length ≤ 1000) :
    ∃ u H, callX G1 ro 38 [v, .i .i64 x, .s t, .i .i64 y] h = some (.tup [u, .i .i64 (typeE s.length t e y)], H, h.length, h.length) ∧ Keep h H ∧ NewC H h.length u (typeV s.length a t e y) := by
  suffices hh : ∃ u H, g38 (meansX G1 ro) ro v x t y ⟨h, h.length, h.length⟩ = some (.tup [u, .i .i64 (typeE s.length t e y)], H, h.length, h.length) ∧ Keep h H ∧ NewC H h.length u (typeV s.length a t e y) by
    obtain ⟨u, H, q1, q2⟩ := hh
    exact ⟨u, H, g38_ok (meansX_ok _ ro) (Oc_none rfl rfl rfl rfl) q1, q2⟩
  unfold g38
  simp only [meansX_call, meansX_loop]
  rw [bindP_of (cp0 hf), bindO_of (ext0 _ _)]
  simp only [asI_i]
  rw [bindO_of (ext1 _ _ _)]
  simp only [asI_i, forceB_eq, eqI_eq, eqZ, tupA, len_str, oS, ltI_eq]
  by_cases h0 : e = 0
  rotate_left
  · rw [dF h0, Bool.not_false, cT]
    exact bad_ty (by unfold typeE; rw [if_neg h0]) h0
  obtain ⟨a0, a1⟩ := ha h0
  rw [dT h0, Bool.not_true, cF]
  by_cases h1 : 300 < t.length
  · rw [dT (by omega : (300 : Int) < (t.length : Int)), cT]
    exact bad_ty (by unfold typeE; rw [if_pos h0, if_pos h1]) (by omega)
  rw [dF (by omega : ¬ (300 : Int) < (t.length : Int)), cF]
  have e0 : ((0 : Nat) : Int) = 0 := rfl
  have step : ∀ k : Nat, k < t.length → g38_b0 (meansX G1 ro) ro v t y a (t.length : Int) (k : Int) ⟨h, h.length, h.length⟩ = cond (!letB (chr t k)) (some (.inr (.inr (.nsl, 5, ⟨h, h.length, h.length⟩)))) (some (.inl (((k + 1 : Nat) : Int), ⟨h, h.length, h.length⟩))) := fun k hk => by
    have hc : callM (callX G1 ro) ⟨h, h.length, h.length⟩ 76 [.i .u8 (chr t k)] = some (.b (letB (chr t k)), ⟨h, h.length, h.length⟩) := cp0 (k76 _)
    unfold g38_b0
    simp only [forceB_eq, ltI_eq, lt_yes hk, cT, ix_str hk, oS, asI_i, meansX_call]
    rw [bindP_of hc]
    simp only [asB_b, forceI_eq, wr_next (by omega : k ≤ 1000000)]
  have hloop := loop_if (b := fun z : Int × Mm => g38_b0 (meansX G1 ro) ro v t y a (t.length : Int) z.1 z.2) (fun i => ((i : Int), ⟨h, h.length, h.length⟩)) t.length (fun k => letB (chr t k) = true) (.inl ⟨h, h.length, h.length⟩) (.inr (.nsl, 5, ⟨h, h.length, h.length⟩)) ?_ ?_ ?_
  rotate_left
  · show g38_b0 _ _ _ _ _ _ _ _ _ = _
    unfold g38_b0
    simp only [forceB_eq, ltI_eq, lt_no, cF]
  · intro k hk hp
    show g38_b0 _ _ _ _ _ _ _ _ _ = _
    rw [step k hk, hp]; rfl
  · intro k hk hp
    have hp' : letB (chr t k) = false := by simpa using hp
    show g38_b0 _ _ _ _ _ _ _ _ _ = _
    rw [step k hk, hp']; rfl
  simp only [e0] at hloop
  rw [bindO_of hloop]
  have hall : (∀ k, k < t.length → letB (chr t k) = true) ↔ (t.all fun c => letB ((c.toNat : Nat) : Int)) = true := all_fold (p := fun c : UInt8 => letB ((c.toNat : Nat) : Int)) (d := 0) t
  by_cases h2 : (t.all fun c => letB ((c.toNat : Nat) : Int)) = true
  rotate_left
  · rw [if_neg fun hh => h2 (hall.1 hh)]
    exact bad_ty (by unfold typeE; rw [if_pos h0, if_neg h1, if_neg h2]) (by omega)
  rw [if_pos (hall.2 h2)]
  simp only []
  rw [bindP_of (cp0 (k77 0 y 4))]
  simp only [asB_b]
  by_cases h3 : 0 ≤ y ∧ y ≤ 4
  rotate_left
  · have hE : typeE s.length t e y = 2 := by unfold typeE; rw [if_pos h0, if_neg h1, if_pos h2, if_neg h3]
    rw [dF h3, Bool.not_false, cT]
    exact bad_ty hE (by omega)
  rw [dT h3, Bool.not_true, cF]
  simp only [len_S i, oS, asI_i, forceI_eq]
  rw [wr_id' (x := (s.length : Int) + (t.length : Int)) (by omega) (by omega)]
  by_cases h5 : 300 < s.length + t.length
  · rw [dT (by omega : (300 : Int) < (s.length : Int) + (t.length : Int)), cT]
    exact bad_ty (by unfold typeE; rw [if_pos h0, if_neg h1, if_pos h2, if_pos h3, if_pos h5]) (by omega)
  rw [dF (by omega : ¬ (300 : Int) < (s.length : Int) + (t.length : Int)), cF]
  have hE : typeE s.length t e y = 0 := by unfold typeE; rw [if_pos h0, if_neg h1, if_pos h2, if_pos h3, if_neg h5]
  have hV : typeV s.length a t e y = typeL a t y := by unfold typeV; rw [dT hE]; rfl
  rw [hE, hV]
  have tl := typeL_len a t y
  obtain ⟨Z, hZ⟩ : ∃ Z, Z = blkOf 24 (rep zC t.length) := ⟨_, rfl⟩
  obtain ⟨H1, e1⟩ : ∃ H1, H1 = h ++ [some Z] := ⟨_, rfl⟩
  have k1 : Keep h H1 := by rw [e1]; exact Keep.app _
  have s1 : stepM ro ⟨h, h.length, h.length⟩ (.mk 24 4 32 zC (.c (.i .i64 (t.length : Int))) (.c (.i .i64 (t.length : Int)))) = some (.sl ⟨false, h.length, 0⟩ t.length (.known t.length), ⟨H1, h.length, h.length⟩) := by
    have hc : (Nat.ble t.length t.length && Nat.ble t.length 1048576 && Nat.ble (t.length * 32) 281474976710656) = true := by
      simp only [Bool.and_eq_true, Nat.ble_eq]; omega
    have e : ((t.length : Nat) : Int) = Int.ofNat t.length := rfl
    rw [e, e1, hZ]
    simp only [stepM, stepK, opd, st_mk, hc, cond_true, newB, St.mm]
  have hr0 : HR H1 h.length 4 (List.replicate t.length zC) := by
    rw [e1]
    refine ⟨Z, lget_last _ _, ?_, fun j hj i hi => ?_⟩
    · rw [hZ, rep_flat]
      show _ ≤ (List.flatten _).length
      rw [flat_len (es := 4) fun x hx => by rw [List.eq_of_mem_replicate hx]; rfl]
      exact Nat.le_refl _
    · rw [hZ, rep_flat, get_blk, flat_get (fun x hx => by rw [List.eq_of_mem_replicate hx]; rfl) hj hi]
  rw [bindP_of s1]
  have hlen49 : evP .e (.len false (.c (.sl ⟨false, h.length, 0⟩ t.length (.known t.length)))) = some (.i .i64 t.length) := by simp [evP, ev_len, opd, mkI_eq]
  simp only [hlen49, oS, asI_i]
  have hl2 := loop_gen (b := fun z : Int × Mm => g38_b1 (meansX G1 ro) ro t y a (.sl ⟨false, h.length, 0⟩ t.length (.known t.length)) (t.length : Int) z.1 z.2) t.length
    (fun k z => ∃ H, z = ((k : Int), ⟨H, h.length, h.length⟩) ∧ Keep h H ∧ ∃ X : List (List AVal), HR H h.length 4 X ∧ X.length = t.length ∧ ∀ j, j < k → X.getD j [] = (typeF a t y j).vs)
    (fun r => ∃ H, r = ⟨H, h.length, h.length⟩ ∧ Keep h H ∧ HR H h.length 4 ((typeL a t y).map Ch.vs))
    (fun k z hk ⟨H, e, kH, X, hX, hXl, hXr⟩ => by
      subst e
      obtain ⟨q', u1, Hc, u2, u3, u4, u5⟩ := put_R (ro := ro) (k := k) (n := t.length) (L := h.length) (P := h.length) (cap := .known t.length) (x := (typeF a t y k).vs) hX rfl rfl rfl hXl.symm (by omega)
      rw [Nat.min_self] at u2
      refine ⟨(((k + 1 : Nat) : Int), ⟨Hc, h.length, h.length⟩), ?_, Hc, rfl, kH.one u4 u5 (Nat.le_refl _), X.set k (typeF a t y k).vs, u3, by rw [List.length_set]; exact hXl, fun j hj => ?_⟩
      · show g38_b1 _ _ _ _ _ _ _ _ _ = _
        unfold g38_b1
        simp only [forceB_eq, ltI_eq, lt_yes hk, cT, forceI_eq]
        rw [wr_id' (x := a + (k : Int)) (by omega) (by omega)]
        simp only [ix_str hk, oS, asI_i]
        rw [bindO_of (hfaT _ _ _), bindO_of u1]
        have u2' : stepM ro ⟨H, h.length, h.length⟩ (.st 4 (.c (.p (some q'))) (.c (Ch.v ⟨1, a + (k : Int), chr t k, y⟩))) = some (und, ⟨Hc, h.length, h.length⟩) := u2
        rw [bindP_of u2', wr_next (by omega : k ≤ 1000000)]
      · by_cases hji : j = k
        · subst hji
          rw [List.getD_eq_getElem?_getD, List.getElem?_set_self (by omega)]; rfl
        · rw [List.getD_eq_getElem?_getD, List.getElem?_set_ne (Ne.symm hji), ← List.getD_eq_getElem?_getD]
          exact hXr j (by omega))
    (fun z ⟨H, e, kH, X, hX, hXl, hXr⟩ => by
      subst e
      have hXe : X = (typeL a t y).map Ch.vs := by
        refine List.ext_getElem (by rw [hXl]; simp [typeL]) fun i h1 h2 => ?_
        have := hXr i (by omega)
        rw [List.getD_eq_getElem?_getD, List.getElem?_eq_getElem h1] at this
        simp only [Option.getD_some] at this
        rw [this]
        simp [typeL]
      refine ⟨⟨H, h.length, h.length⟩, ?_, H, rfl, kH, by rw [← hXe]; exact hX⟩
      show g38_b1 _ _ _ _ _ _ _ _ _ = _
      unfold g38_b1
      simp only [forceB_eq, ltI_eq, lt_no, cF]) t.length 0 (0, ⟨H1, h.length, h.length⟩) (by omega) ⟨H1, rfl, k1, _, hr0, by simp, fun j hj => by omega⟩
  obtain ⟨r, o1, H, rfl, kH, hR⟩ := hl2
  rw [bindO_of o1]
  have hN : NewC H h.length (.sl ⟨false, h.length, 0⟩ t.length (.known t.length)) (typeL a t y) := .inr ⟨h.length, _, by rw [tl], Nat.le_refl _, hR⟩
  obtain ⟨Hf, f1, f2, f3⟩ := fin_ce kH hN 0
  exact ⟨_, Hf, f1, f2, f3⟩
theorem find_bound {s : List Cl} (hf : FindOk s x a e) : e = 0 → 0 ≤ a ∧ a ≤ 300 := fun h0 => by
  rcases hf with ⟨g0, g1, g2⟩ | ⟨g0, p, p1, p2, p3, p4, p5⟩ | ⟨g0, g1, g2, g3⟩ | ⟨g0, g1, g2, g3⟩
  · exact absurd (by omega) g0
  · have := errS_len g0; omega
  · have := errS_len g0; omega
  · omega
theorem law7 (i : IsS ro h v s) (hc : CapO v) (hn : s.length ≤ 9223372036854775807) (hx : x ≤ 9223372036854775807) (ht : t.length ≤ 9223372036854775807) : ∃ h' lw lp, callX G1 ro 7 [v, .i .i64 x, .s t, .i .i64 y] h = some (.b true, h', lw, lp) := by
  suffices hh : ∃ r : AVal × Heap × Nat × Nat, g7 (meansX G1 ro) ro v x t y ⟨h, h.length, h.length⟩ = some r ∧ r.1 = .b true by
    obtain ⟨⟨x, y, z, q⟩, h1, h2⟩ := hh
    cases h2
    exact ⟨_, _, _, g7_ok (meansX_ok _ ro) (Oc_none rfl rfl rfl rfl) h1⟩
  unfold g7
  have al : ∀ {H : Heap}, h.length ≤ H.length → callM (callX G1 ro) ⟨H, h.length, h.length⟩ 17 [] = some (.b true, ⟨H, h.length, h.length⟩) := fun hl => cp gAlive hl hl
  simp only [len_S i, oS, asI_i, forceB_eq, ltI_eq, tupA, meansX_call, len_str]
  by_cases h4 : 400 < s.length
  · rw [dT (by omega : (400 : Int) < (s.length : Int))]
    simp only [cT, oS]
    rw [bindP_of (al (Nat.le_refl _))]
    exact ⟨_, fin_keep (Keep.refl h) rfl, rfl⟩
  rw [dF (by omega : ¬ (400 : Int) < (s.length : Int)), cF]
  simp only [oS]
  by_cases h5 : 400 < t.length
  · rw [dT (by omega : (400 : Int) < (t.length : Int)), cT, bindP_of (al (Nat.le_refl _))]
    exact ⟨_, fin_keep (Keep.refl h) rfl, rfl⟩
  rw [dF (by omega : ¬ (400 : Int) < (t.length : Int)), cF]
  obtain ⟨a, e, f1, f2⟩ := find36 (ro := ro) (x := x) i (by omega)
  obtain ⟨a', e', g1, g2⟩ := find37 (ro := ro) (x := x) i (by omega) hx
  obtain ⟨rfl, rfl⟩ := find_one f2 g2
  rw [bindP_of (cp0 f1), bindO_of (ext0 _ _)]
  simp only [asI_i]
  rw [bindO_of (ext1 _ _ _)]
  simp only [asI_i]
  rw [bindP_of (cp0 g1), bindO_of (ext0 _ _)]
  simp only [asI_i]
  rw [bindO_of (ext1 _ _ _)]
  simp only [asI_i, eqI_eq, beq_self_eq_true, Bool.not_true, cF, oS]
  obtain ⟨u1, H1, r1, k1, n1⟩ := g38_c (ro := ro) (t := t) (y := y) i (by omega) f1 (find_bound f2) (by omega)
  obtain ⟨f3⟩ : Nonempty (callX G1 ro 37 [v, .i .i64 x] H1 = some (.tup [.i .i64 a, .i .i64 e], H1, H1.length, H1.length)) := by
    obtain ⟨a2, e2, z1, z2⟩ := find37 (ro := ro) (x := x) (i.by k1) (by omega) hx
    obtain ⟨rfl, rfl⟩ := find_one f2 z2
    exact ⟨z1⟩
  obtain ⟨u2, H2, r2, k2, n2⟩ := g39_c (ro := ro) (t := t) (y := y) (i.by k1) (by omega) f3 (find_bound f2) (by omega)
  have kk2 := k1.trans k2
  rw [bindP_of (callM_new r1 (Nat.le_refl _)), bindO_of (ext0 _ _), bindO_of (ext1 _ _ _)]
  simp only [asI_i]
  rw [bindP_of (callM_new r2 k1.1), bindO_of (ext0 _ _), bindO_of (ext1 _ _ _)]
  simp only [asI_i]
  have hlv : (typeV s.length a t e y).length ≤ 1000000 := by
    unfold typeV
    cases decide (typeE s.length t e y = 0)
    · simp
    · show (typeL a t y).length ≤ _
      rw [typeL_len]; omega
  have q1 : callM (callX G1 ro) ⟨H2, h.length, h.length⟩ 31 [u1, u2] = some (.b true, ⟨H2, h.length, h.length⟩) := by
    have := g31_c (ro := ro) (n1.by k2).isCh n2.isCh hlv
    rw [dT rfl] at this
    exact cp this kk2.1 kk2.1
  rw [bindP_of q1]
  simp only [asB_b, cT, beq_self_eq_true, oS]
  rw [bindP_of (al kk2.1)]
  simp only [asB_b, oS]
  exact ⟨_, fin_keep kk2 rfl, rfl⟩
end
end Go.Proofs.Ythcadkmfbgonjaa.T

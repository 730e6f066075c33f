/- Contracts of the functions: what each of them answers. -/
import Derived.Test.YtdjffnfjbeiomaaVmGa0
import Derived.Test.YtdjffnfjbeiomaaVmFO
import Derived.Test.YtdjffnfjbeiomaaVmGt
import Derived.Test.YtdjffnfjbeiomaaVmAE
import Derived.Test.YtdjffnfjbeiomaaVmAF
import Derived.Test.YtdjffnfjbeiomaaRows
import Derived.WalkKit
import Derived.ProofKit
import Derived.OpenShut
import Derived.Carry
import Derived.Deep.Slices
import Derived.ChangeMaps5
/- From the small machine to the statement: structs and lists of structs whose fields are numbers and truth values, in memory that is only read. -/
open Go.Vm
set_option linter.unusedVariables false
namespace Go.Proofs.Ytdjffnfjbeiomaa.T
open Go Go.RowKit Go.Deep Go.WideShapes Go.ChangeShapes

instance : Inhabited AVal := ⟨und⟩
abbrev F1 : Tab := ⟨F, known0 5 (.b true)⟩
/-- a plain value in the world -/
def toV : AVal → Value
  | .i k n => .int k n
  | .b x => .bool x
  | _ => undef
/-- cells of given kinds: numbers, or truth values (none) -/
def Typed (ks : List (Option IntKind)) (vs : List AVal) : Prop := vs.length = ks.length ∧ ∀ j, j < ks.length →
  (∀ k, ks[j]? = some (some k) → ∃ n, vs.getD j und = .i k n ∧ (Lit.int k n).wf = true) ∧ (ks[j]? = some none → ∃ b, vs.getD j und = .b b)
theorem Typed.vr {ks : List (Option IntKind)} {vs : List AVal} (h : Typed ks vs) {j : Nat} (hj : j < ks.length) (y : Rl) : VR y [] (vs.getD j und) (toV (vs.getD j und)) := by
  obtain ⟨h1, h2⟩ := h.2 j hj
  have hk : ks[j]? = some ks[j] := List.getElem?_eq_getElem hj
  cases hkk : ks[j] with
  | none => obtain ⟨b, e⟩ := h2 (by rw [hk, hkk]); rw [e]; exact .b _
  | some k => obtain ⟨n, e, -⟩ := h1 k (by rw [hk, hkk]); rw [e]; exact .i _ _

/-- the fields of a struct type, one cell each -/
def Flds (t : TypeId) (ks : List (Option IntKind)) : Prop := ∃ fs : Array Field, Try.prog.underlying t = some (.struct fs) ∧ fs.size = ks.length ∧ Try.prog.cellsOf t = ks.length ∧
  ∀ j, j < ks.length → ∃ f, fs[j]? = some f ∧ f.offset = j ∧ Try.prog.cellsOf f.type = 1 ∧ (∀ k, ks[j]? = some (some k) → Try.prog.underlying f.type = some (.int k)) ∧ (ks[j]? = some none → Try.prog.underlying f.type = some .bool)

section
variable {H : Type} {enc : TypeId × Value → H} {W : World} {sp : Nat → Bool} {held : Bool} {base : Nat}
theorem struct_cells {t : TypeId} {ks : List (Option IntKind)} (hF : Flds t ks) {fuel : Nat} {cs : List Value} {x : DataW H × List MemPlace} (h : DataW.trod enc Try.prog W base sp held fuel t cs = some x) :
    ∃ vs, Typed ks vs ∧ cs = vs.map toV := by
  obtain ⟨fs, hu, hsz, hce, hf⟩ := hF
  obtain ⟨xs, k, hk, hxy, hcl, hxl, hfs⟩ := DataW.trod_struct hu h
  have one : ∀ j, j < ks.length → ∃ v : AVal, cs[j]? = some (toV v) ∧ (∀ k, ks[j]? = some (some k) → ∃ n, v = .i k n ∧ (Lit.int k n).wf = true) ∧ (ks[j]? = some none → ∃ b, v = .b b) := by
    intro j hj
    obtain ⟨f, hfj, hoff, hc1, hi, hb⟩ := hf j hj
    have h3 := hfs j f hfj
    rw [hoff, hc1] at h3
    have hx : xs[j]? = some xs[j] := List.getElem?_eq_getElem (by omega)
    rw [hx] at h3
    have hkj : ks[j]? = some ks[j] := List.getElem?_eq_getElem hj
    have cell : ∀ {w : Value}, (cs.drop j).take 1 = [w] → cs[j]? = some w := fun {w} e => by
      have h5 : ((cs.drop j).take 1)[0]? = some w := by rw [e]; rfl
      simpa [List.getElem?_take, List.getElem?_drop] using h5
    cases hkk : ks[j] with
    | none =>
      have := hb (by rw [hkj, hkk])
      obtain ⟨b, e1, -⟩ := DataW.trod_bool this h3
      exact ⟨.b b, cell e1, fun k hk => by rw [hkj, hkk] at hk; simp at hk, fun _ => ⟨b, rfl⟩⟩
    | some k =>
      have := hi k (by rw [hkj, hkk])
      obtain ⟨n, e1, -, e2⟩ := DataW.trod_int this h3
      exact ⟨.i k n, cell e1, fun k' hk => by rw [hkj, hkk] at hk; cases hk; exact ⟨n, rfl, e2⟩, fun hk => by rw [hkj, hkk] at hk; simp at hk⟩
  obtain ⟨y, hy⟩ := choose_lt (α := AVal) (p := fun j v => cs[j]? = some (toV v) ∧ (∀ k, ks[j]? = some (some k) → ∃ n, v = .i k n ∧ (Lit.int k n).wf = true) ∧ (ks[j]? = some none → ∃ b, v = .b b)) one
  have hlen : cs.length = ks.length := by rw [hcl, hce]
  have hg : ∀ j, j < ks.length → ((List.range ks.length).map y).getD j und = y j := fun j hj => by simp [List.getD, hj]
  refine ⟨(List.range ks.length).map y, ⟨by simp, fun j hj => ?_⟩, List.ext_getElem? fun j => ?_⟩
  · rw [hg j hj]; exact (hy j hj).2
  · rcases Nat.lt_or_ge j ks.length with hj | hj
    · rw [(hy j hj).1]; simp [hj]
    · rw [List.getElem?_eq_none (by omega), List.getElem?_eq_none (by simp; omega)]

/-- what is read in the world of a list of structs -/
structure OpenL (W : World) (v0 : Value) (ks : List (Option IntKind)) (len : Nat) (X : List (List AVal)) : Prop where
  o : (v0 = .slice none 0 0 ∧ len = 0 ∧ X = []) ∨ ∃ (a : Addr) (cap : Nat), v0 = .slice (some a) len cap ∧ len ≤ cap ∧ X.length = cap ∧
    ∀ i, i < cap → ∀ j, j < ks.length → a.block < W.heap.size ∧ W.cell? (a.add (i * ks.length + j)) = some (toV ((X.getD i []).getD j und))
  len_le : len ≤ 9223372036854775807
  typed : ∀ x ∈ X, Typed ks x

theorem opened_list {ts t : TypeId} (hu : Try.prog.underlying ts = some (.slice t)) {ks : List (Option IntKind)} (hF : Flds t ks) {v0 : Value} {d : DataW H} {p : List MemPlace} (hs : ∃ a len cap, v0 = .slice a len cap) (h : DataW.Trod enc Try.prog W 0 (fun _ => true) held ts v0 d p) :
    ∃ len X, OpenL W v0 ks len X := by
  obtain ⟨a0, len, cap, rfl⟩ := hs
  obtain ⟨fuel, hf⟩ := h
  have hml : maxLen = 9223372036854775807 := rfl
  have hce : Try.prog.cellsOf t = ks.length := by obtain ⟨_, _, _, h, _⟩ := hF; exact h
  rcases open_slice hu hf with ⟨hcs0, hx⟩ | ⟨a, len', cap', m, n, D, Pl, hcs0, _, hl, hm, hmm, hx, hel⟩
  · simp [Value.cells] at hcs0
    obtain ⟨rfl, rfl, rfl⟩ := hcs0
    exact ⟨0, [], .inl ⟨rfl, rfl, rfl⟩, by omega, by simp⟩
  · simp [Value.cells] at hcs0
    obtain ⟨rfl, rfl, rfl⟩ := hcs0
    simp only [if_true] at hmm
    subst hmm
    have each : ∀ i, i < m → ∃ y : List AVal, Typed ks y ∧ ∀ k, k < ks.length → W.cell? (a.add (i * ks.length + k)) = some (toV (y.getD k und)) := by
      intro i hi
      obtain ⟨cs', h1, h2⟩ := hel i hi
      rw [hce] at h1
      obtain ⟨_, hlen, hcell⟩ := World.cells?_some h1
      obtain ⟨vs, ht, hvs⟩ := struct_cells hF h2
      refine ⟨vs, ht, fun k hk => ?_⟩
      have h4 := hcell k hk
      rw [addr_addadd] at h4
      rw [h4, hvs]
      have : k < vs.length := by rw [ht.1]; exact hk
      simp [List.getD, this]
    obtain ⟨y, hy⟩ := choose_lt (α := List AVal) (p := fun i y => Typed ks y ∧ ∀ k, k < ks.length → W.cell? (a.add (i * ks.length + k)) = some (toV (y.getD k und))) each
    refine ⟨len, (List.range m).map y, .inr ⟨a, m, rfl, hl, by simp, fun i hi j hj => ?_⟩, by omega, fun x hx => ?_⟩
    · have e : ((List.range m).map y).getD i [] = y i := by simp [List.getD, hi]
      rw [e]
      have h1 := (hy i hi).2 j hj
      exact ⟨World.block_lt_of_cell? _ _ h1 |> fun h => by simpa [addr_block] using h, h1⟩
    · obtain ⟨k, hk, rfl⟩ := List.mem_map.1 hx
      exact (hy k (List.mem_range.1 hk)).1
end

/-- a list of elements of es cells each, in memory -/
def IsL (ro : List ABlk) (h : Heap) (v : AVal) (es : Nat) (X : List (List AVal)) : Prop :=
  (∀ x ∈ X, x.length = es) ∧ ((v = .nsl ∧ X = []) ∨ (v = .esl ∧ X = []) ∨ ∃ q cap blk, v = .sl q X.length cap ∧ rdB ro h q = some blk ∧ q.off + X.length * es ≤ blk.n ∧
    ∀ j, j < X.length → ∀ i, i < es → blk.c.get (q.off + j * es + i) = (X.getD j []).getD i und)
/-- a slice that can be cut anywhere within its length -/
def CapO (v : AVal) : Prop := v ≠ .esl ∧ ∀ q n c, v = .sl q n c → c = .grow ∨ ∃ k, c = .known k ∧ n ≤ k

theorem flat_get {es : Nat} : ∀ {X : List (List AVal)}, (∀ x ∈ X, x.length = es) → ∀ {i j : Nat}, i < X.length → j < es → X.flatten.getD (i * es + j) und = (X.getD i []).getD j und
  | [], _, i, j, hi, _ => by simp at hi
  | x :: X, h, 0, j, hi, hj => by
    have hx := h x (by simp)
    simp only [List.flatten_cons, Nat.zero_mul, Nat.zero_add]
    rw [List.getD_eq_getElem?_getD, List.getElem?_append_left (by omega), ← List.getD_eq_getElem?_getD]
    rfl
  | x :: X, h, i + 1, j, hi, hj => by
    have hx := h x (by simp)
    simp only [List.flatten_cons]
    rw [List.getD_eq_getElem?_getD, List.getElem?_append_right (by rw [hx, Nat.add_mul]; omega), ← List.getD_eq_getElem?_getD]
    have := flat_get (X := X) (fun y hy => h y (by simp [hy])) (i := i) (by simpa using hi) hj
    rw [show (i + 1) * es + j - x.length = i * es + j by rw [hx, Nat.add_mul]; omega, this]
    simp
theorem flat_len {es : Nat} {X : List (List AVal)} (h : ∀ x ∈ X, x.length = es) : X.flatten.length = X.length * es := by
  induction X with
  | nil => simp
  | cons x X ih =>
    rw [List.flatten_cons, List.length_append, ih fun y hy => h y (by simp [hy]), h x (by simp), List.length_cons, Nat.add_mul]; omega

/-- of an argument: read-only memory for it -/
theorem ro_list {W : World} {v0 : Value} {ks : List (Option IntKind)} {len : Nat} {X : List (List AVal)} (hO : OpenL W v0 ks len X) (hes : 0 < ks.length) (pre : List ABlk) (prl : Rl) (hp : pre.length = prl.length) : ∃ (ro : List ABlk) (rl : Rl) (v : AVal), ro.length = rl.length ∧ CapO v ∧
    (∀ x y h, IsL (pre ++ ro ++ x) h v ks.length (X.take len) ∧ VR (prl ++ rl ++ y) [] v v0) ∧
    ∀ (i : Nat) (b : ABlk), ro[i]? = some b → ∃ x, rl[i]? = some x ∧ ∀ j, j < b.n → x.block < W.heap.size ∧ ∃ v', W.cell? (x.add j) = some v' ∧ ∀ y, VR y [] (b.c.get j) v' := by
  have hty := hO.typed
  have hlen : ∀ x ∈ X, x.length = ks.length := fun x hx => (hty x hx).1
  rcases hO.o with ⟨rfl, rfl, rfl⟩ | ⟨a, cap, rfl, hcap, hX, hcell⟩
  · exact ⟨[], [], .nsl, rfl, ⟨(by simp), fun q n c e => by cases e⟩, fun x y h => ⟨⟨by simp, .inl ⟨rfl, rfl⟩⟩, .nsl⟩, fun i b hb => by simp at hb⟩
  · have hget : ∀ i, i < cap → ∀ j, j < ks.length → (Tr.mk X.flatten).get (i * ks.length + j) = (X.getD i []).getD j und := fun i hi j hj => by
      rw [get_mk, flat_get hlen (by omega) hj]
    refine ⟨[⟨0, cap * ks.length, Tr.mk X.flatten, none⟩], [a], .sl ⟨true, pre.length, 0⟩ len (.known cap), rfl, ⟨(by simp), fun q n c e => by cases e; exact .inr ⟨_, rfl, hcap⟩⟩, fun x y h => ⟨⟨fun z hz => hlen z (List.mem_of_mem_take hz), .inr (.inr ⟨⟨true, pre.length, 0⟩, .known cap, ⟨0, cap * ks.length, Tr.mk X.flatten, none⟩, ?_, ?_, ?_, fun j hj i hi => ?_⟩)⟩, ?_⟩, fun i b hb => ?_⟩
    · rw [List.length_take, Nat.min_eq_left (by omega)]
    · simp only [rdB, cond_true, lget_eq, List.append_assoc]
      rw [List.getElem?_append_right (Nat.le_refl _)]; simp
    · rw [List.length_take, Nat.min_eq_left (by omega)]
      have := Nat.mul_le_mul_right ks.length hcap
      simpa using this
    · rw [List.length_take, Nat.min_eq_left (by omega)] at hj
      have := hget j (by omega) i hi
      simp only [Nat.zero_add, this]
      congr 1
      rw [List.getD_eq_getElem?_getD, List.getD_eq_getElem?_getD, List.getElem?_take_of_lt hj]
    · refine .slk _ _ _ _ ?_
      show (((prl ++ [a] ++ y)[pre.length]?).map fun x => x.add 0) = some a
      rw [List.append_assoc, List.getElem?_append_right (by omega), hp]; simp [Addr.add]
    · cases i with
      | zero =>
        simp at hb
        subst hb
        refine ⟨a, rfl, fun j hj => ?_⟩
        have hj' : j < cap * ks.length := hj
        have e : j = j / ks.length * ks.length + j % ks.length := (Nat.div_add_mod' j ks.length).symm
        have h1 : j / ks.length < cap := Nat.div_lt_of_lt_mul (by rw [Nat.mul_comm]; exact hj')
        have h2 : j % ks.length < ks.length := Nat.mod_lt _ hes
        obtain ⟨h3, h4⟩ := hcell _ h1 _ h2
        rw [← e] at h4
        refine ⟨h3, _, h4, fun y => ?_⟩
        have := hget _ h1 _ h2
        rw [← e] at this
        simp only [this]
        have hm : X.getD (j / ks.length) [] ∈ X := by
          have : j / ks.length < X.length := by omega
          simp [List.getD, this]
        exact (hty _ hm).vr h2 y
      | succ i => simp at hb

theorem laidOut : laidOutB Try.prog = true := by kernel_rfl
theorem own : ownKnob Try.prog.godebug = none := by kernel_rfl
theorem cells3 : Try.prog.cellsOf 3 = 1 := by kernel_rfl
abbrev ksF : List (Option IntKind) := [some .i64, some .i64]
theorem flds45 : Flds 45 ksF := by
  refine ⟨_, Try.underlying45, rfl, by kernel_rfl, fun j hj => ?_⟩
  match j, hj with
  | 0, _ => exact ⟨_, rfl, rfl, cells3, fun k h => by simp at h; subst h; exact Try.underlying3, fun h => by simp at h⟩
  | 1, _ => exact ⟨_, rfl, rfl, cells3, fun k h => by simp at h; subst h; exact Try.underlying3, fun h => by simp at h⟩

theorem env_ok {W : World} {ro : List ABlk} {rl : Rl} (h : ∀ (i : Nat) (b : ABlk), ro[i]? = some b → ∃ x, rl[i]? = some x ∧ ∀ j, j < b.n → x.block < W.heap.size ∧ ∃ v', W.cell? (x.add j) = some v' ∧ VR rl [] (b.c.get j) v') :
    (Env.mk Try.prog W.heap.size W ro rl).Ok := ⟨fun i b hb => h i b hb, Nat.le_refl _⟩
/-- what lies in the read-only blocks -/
def RoP (W : World) (ro : List ABlk) (rl : Rl) : Prop := ∀ (i : Nat) (b : ABlk), ro[i]? = some b → ∃ x, rl[i]? = some x ∧ ∀ j, j < b.n → x.block < W.heap.size ∧ ∃ v', W.cell? (x.add j) = some v' ∧ ∀ y, VR y [] (b.c.get j) v'
theorem RoP.nil (W : World) : RoP W [] [] := fun i b hb => by simp at hb
theorem RoP.env {W : World} {ro : List ABlk} {rl : Rl} (h : RoP W ro rl) : (Env.mk Try.prog W.heap.size W ro rl).Ok := env_ok fun i b hb => by
  obtain ⟨y, h1, h2⟩ := h i b hb
  refine ⟨y, h1, fun j hj => ?_⟩
  obtain ⟨h3, v', h4, h5⟩ := h2 j hj
  exact ⟨h3, v', h4, h5 _⟩
theorem RoP.snoc {W : World} {ro ro' : List ABlk} {rl rl' : Rl} (hl : ro.length = rl.length) (h : RoP W ro rl) (h' : RoP W ro' rl') : RoP W (ro ++ ro') (rl ++ rl') := by
  intro i b hb
  rcases Nat.lt_or_ge i ro.length with hi | hi
  · rw [List.getElem?_append_left hi] at hb
    obtain ⟨x, h1, h2⟩ := h i b hb
    exact ⟨x, by rw [List.getElem?_append_left (by omega)]; exact h1, h2⟩
  · rw [List.getElem?_append_right hi] at hb
    obtain ⟨x, h1, h2⟩ := h' _ b hb
    exact ⟨x, by rw [List.getElem?_append_right (by omega), ← hl]; exact h1, h2⟩

/-- the call of the model: true, and below nothing has turned -/
theorem call_of {W : World} {ro : List ABlk} {rl : Rl} (hE : (Env.mk Try.prog W.heap.size W ro rl).Ok) {K : Nat} {vs : List AVal} {args : Array Value}
    (hv : LR rl [] vs args) {h' : Heap} {lw lp : Nat} (hc : callX F1 ro K vs [] = some (.b true, h', lw, lp)) : Calls Try.prog K args W fun e W' => e = .returned (.bool true) ∧ Below W.heap.size W W' := by
  have hm : (Env.mk Try.prog W.heap.size W ro rl).P.follows .mixedOrders = true := Try.checked.mixed
  have hO : CallOk (Env.mk Try.prog W.heap.size W ro rl) (known0 5 (.b true)) := alive_known hE hm fok
  obtain ⟨-, h2⟩ := callX_sound hE hm (F := F1) fok hO K vs [] _ _ _ _ hc
  refine Calls.mono (h2 [] W args ⟨Below.refl _ _, rfl, by simp, fun i b r K hl => by simp [Live] at hl, fun i j b b' r K K' hl => by simp [Live] at hl⟩ hv) fun e w' hq => ?_
  obtain ⟨v', rfl, m', hvr, T⟩ := hq
  exact ⟨by rw [hvr.inv_b], T.hr.below⟩
theorem alive_pure {ro : List ABlk} {h : Heap} : callX F1 ro 5 [] h = some (.b true, h, h.length, h.length) := callX_ov rfl

/-- a fence -/
structure Fe where
  a : Int
  b : Int
  deriving DecidableEq
def Fe.vs (c : Fe) : List AVal := [.i .i64 c.a, .i .i64 c.b]
def Fe.fits (c : Fe) : Prop := inI64 c.a ∧ inI64 c.b
theorem Typed.fe {x : List AVal} (h : Typed ksF x) : ∃ c : Fe, x = c.vs ∧ c.fits := by
  obtain ⟨h1, h2⟩ := h
  obtain ⟨n0, e0, w0⟩ := (h2 0 (by decide)).1 .i64 rfl
  obtain ⟨n1, e1, w1⟩ := (h2 1 (by decide)).1 .i64 rfl
  match x, h1 with
  | [p, q], _ =>
    simp at e0 e1
    subst e0 e1
    exact ⟨⟨n0, n1⟩, rfl, wf_i64 w0, wf_i64 w1⟩
theorem all_map {α : Type} {f : α → List AVal} {P : List AVal → Prop} {Q : α → Prop} (h1 : ∀ x, P x → ∃ c, x = f c ∧ Q c) : ∀ {X : List (List AVal)}, (∀ x ∈ X, P x) → ∃ l : List α, X = l.map f ∧ ∀ c ∈ l, Q c
  | [], _ => ⟨[], rfl, by simp⟩
  | x :: X, h => by
    obtain ⟨c, e, hc⟩ := h1 x (h x (by simp))
    obtain ⟨l, e2, hl⟩ := all_map h1 (X := X) fun y hy => h y (by simp [hy])
    refine ⟨c :: l, by rw [e, e2]; rfl, fun d hd => ?_⟩
    rcases List.mem_cons.1 hd with rfl | hd
    · exact hc
    · exact hl d hd
end Go.Proofs.Ytdjffnfjbeiomaa.T

/- Blocks that a function makes for itself; loops whose state is known. -/
open Go.Vm
set_option linter.unusedVariables false
namespace Go.Proofs.Ytdjffnfjbeiomaa.T
open Go

/-- a block of the heap that holds these values -/
def Holds (hp : Heap) (b : Nat) (vs : List AVal) : Prop := ∃ blk : ABlk, lget hp b = some (some blk) ∧ blk.n = vs.length ∧ ∀ j, j < vs.length → blk.c.get j = vs.getD j und
/-- what was there is still there -/
def Keep (h hp : Heap) : Prop := h.length ≤ hp.length ∧ ∀ i, i < h.length → hp[i]? = h[i]?

section
variable {ro : List ABlk} {h hp hp' : Heap} {b k e n l p : Nat} {vs : List AVal}
theorem Keep.refl (h : Heap) : Keep h h := ⟨Nat.le_refl _, fun _ _ => rfl⟩
theorem Keep.trans {h1 : Heap} (a : Keep h h1) (c : Keep h1 hp) : Keep h hp := ⟨Nat.le_trans a.1 c.1, fun i hi => by rw [c.2 i (by have := a.1; omega), a.2 i hi]⟩
theorem Keep.app (x : Heap) : Keep h (h ++ x) := ⟨by simp, fun i hi => List.getElem?_append_left hi⟩
theorem Keep.set (a : Keep h hp) (hb : h.length ≤ b) (x : Option ABlk) : Keep h (hp.set b x) := ⟨by simpa using a.1, fun i hi => by rw [List.getElem?_set_ne (by omega)]; exact a.2 i hi⟩
theorem Keep.eq (a : Keep h hp) : hp.take h.length = h := by
  refine List.ext_getElem? fun i => ?_
  rcases Nat.lt_or_ge i h.length with hi | hi
  · rw [List.getElem?_take_of_lt hi, a.2 i hi]
  · rw [List.getElem?_eq_none (by simp; omega), List.getElem?_eq_none hi]
theorem fin_keep {v : AVal} (a : Keep h hp) (hv : v.bel h.length = true) : finM h.length v ⟨hp, h.length, h.length⟩ = some (v, h, h.length, h.length) := by
  rw [fin_take hv, a.eq]
theorem Holds.lt (a : Holds hp b vs) : b < hp.length := by obtain ⟨blk, h1, -⟩ := a; exact lget_lt h1
theorem Holds.new (hp : Heap) (e : Nat) (vs : List AVal) : Holds (hp ++ [some (blkOf e vs)]) hp.length vs := ⟨_, lget_last _ _, rfl, fun j _ => get_blk e vs j⟩
theorem Holds.keep (a : Holds hp b vs) (hk : hp'[b]? = hp[b]?) : Holds hp' b vs := by
  obtain ⟨blk, h1, h2⟩ := a
  exact ⟨blk, by rw [lget_of hk]; exact h1, h2⟩
theorem Holds.ext (a : Holds hp b vs) (x : Heap) : Holds (hp ++ x) b vs := a.keep (List.getElem?_append_left a.lt)
theorem Holds.by (a : Holds hp b vs) (k : Keep hp hp') : Holds hp' b vs := a.keep (k.2 b a.lt)
theorem Holds.one (a : Holds hp b vs) (hk : k < vs.length) : ldM ro ⟨hp, l, p⟩ true 1 (.p (some ⟨false, b, 0 + k⟩)) = some (vs.getD k und) := by
  obtain ⟨blk, h1, h2, h3⟩ := a
  rw [ld_heap rfl h1 (by omega), ← h3 k hk, Nat.zero_add]
theorem Holds.oneA (a : Holds hp b vs) (hk : k < vs.length) : ldA ro hp true 1 (.p (some ⟨false, b, 0 + k⟩)) = some (vs.getD k und) := by
  obtain ⟨blk, h1, h2, h3⟩ := a
  rw [lda_heap h1 (by omega), ← h3 k hk, Nat.zero_add]
theorem row_list {t : Tr} : ∀ (vs : List AVal) (i : Nat), (∀ j, j < vs.length → t.get (i + j) = vs.getD j und) → t.row i vs.length = vs
  | [], i, _ => rfl
  | v :: vs, i, h => by
    simp only [List.length_cons, Tr.row]
    rw [show t.get i = v by simpa using h 0 (by simp), row_list vs (i + 1) fun j hj => by have := h (j + 1) (by simp; omega); rw [show i + 1 + j = i + (j + 1) by omega, this]; simp]
theorem Holds.rd (a : Holds hp b vs) (hn : n = vs.length) : Go.Vm.rd ro hp false n ⟨false, b, 0⟩ = some (.agg vs) := by
  subst hn
  obtain ⟨blk, h1, h2, h3⟩ := a
  have hc : Nat.ble (0 + vs.length) blk.n = true := by rw [Nat.ble_eq]; omega
  simp only [Go.Vm.rd, rdB_heap h1, cond_false, hc, cond_true]
  rw [row_list vs 0 fun j hj => by rw [Nat.zero_add]; exact h3 j hj]
theorem Holds.all (a : Holds hp b vs) (hn : n = vs.length) : ldM ro ⟨hp, l, p⟩ false n (.p (some ⟨false, b, 0⟩)) = some (.agg vs) := by
  simp only [ldM, a.rd hn]
theorem spliceGet (t : Tr) : ∀ (vs : List AVal) (i j : Nat), (t.splice i vs).get j = if i ≤ j ∧ j < i + vs.length then vs.getD (j - i) und else t.get j
  | [], i, j => by simp [Tr.splice]; intro h1 h2; omega
  | v :: vs, i, j => by
    rw [Tr.splice, spliceGet (t.set i v) vs (i + 1) j, get_set]
    by_cases e : i = j
    · subst e
      rw [if_neg (by omega), if_pos rfl, if_pos (by simp)]; simp
    · by_cases h2 : i ≤ j ∧ j < i + (v :: vs).length
      · have h3 : i + 1 ≤ j ∧ j < i + 1 + vs.length := by simp at h2; omega
        rw [if_pos h2, if_pos h3]
        obtain ⟨q, rfl⟩ : ∃ q, j = i + 1 + q := ⟨j - (i + 1), by omega⟩
        rw [show i + 1 + q - i = q + 1 by omega, show i + 1 + q - (i + 1) = q by omega]
        simp
      · have h3 : ¬ (i + 1 ≤ j ∧ j < i + 1 + vs.length) := by simp at h2; omega
        rw [if_neg h2, if_neg h3, if_neg e]
theorem wrH_all {blk : ABlk} (hb : lget hp b = some (some blk)) (hn : vs.length ≤ blk.n) (ho : ones vs = true) : wrH hp ⟨false, b, 0⟩ vs = some (hp.set b (some { blk with c := blk.c.splice 0 vs })) := by
  have : (Nat.ble (0 + vs.length) blk.n && ones vs) = true := by rw [ho, Bool.and_true, Nat.ble_eq]; omega
  simp only [wrH, cond_false, hb, this, cond_true, lset_eq]
/-- a block is written whole -/
theorem Holds.st {vs' : List AVal} {v : AVal} (a : Holds hp b vs) (hv : v.cells = vs') (hn : n = vs'.length) (hl : vs'.length = vs.length) (ho : ones vs' = true) (hL : h.length ≤ b) (kp : Keep h hp) :
    ∃ hp', stepM ro ⟨hp, h.length, h.length⟩ (.st n (.c (.p (some ⟨false, b, 0⟩))) (.c v)) = some (und, ⟨hp', h.length, h.length⟩) ∧ Holds hp' b vs' ∧ hp'.length = hp.length ∧ (∀ i, i ≠ b → hp'[i]? = hp[i]?) ∧ Keep h hp' := by
  obtain ⟨blk, h1, h2, h3⟩ := a
  subst hv hn
  have hw := wrH_all h1 (vs := v.cells) (by omega) ho
  refine ⟨hp.set b (some { blk with c := blk.c.splice 0 v.cells }), ?_, ⟨_, lget_set h1 _, by simpa using (h2.trans hl.symm), fun j hj => ?_⟩, by simp, fun i hi => List.getElem?_set_ne (Ne.symm hi), kp.set hL _⟩
  · have hbq : Nat.beq v.cells.length v.cells.length = true := Nat.beq_refl _
    have e : (cond (nonp v.cells) h.length h.length) = h.length := by cases nonp v.cells <;> rfl
    simp only [stepM, stepK, opd, st_st, hbq, cond_true, hw, St.mm, Nat.min_eq_left hL, e]
  · show (blk.c.splice 0 v.cells).get j = _
    rw [spliceGet, if_pos (by omega)]; simp
theorem al_ok (e : Nat) (z : List AVal) : stepM ro ⟨hp, l, p⟩ (.al e z) = some (.p (some ⟨false, hp.length, 0⟩), ⟨hp ++ [some (blkOf e z)], l, p⟩) := rfl
theorem bx_ok (e : Nat) (hn : vs.length = n) : stepM ro ⟨hp, l, p⟩ (.bx e n (.c (.agg vs))) = some (.p (some ⟨false, hp.length, 0⟩), ⟨hp ++ [some (blkOf e vs)], l, p⟩) := by
  subst hn
  have hbq : Nat.beq vs.length vs.length = true := Nat.beq_refl _
  simp only [stepM, stepK, opd, st_bx, AVal.cells, hbq, cond_true, newB, St.mm]
end

theorem ext0 (a : AVal) (l : List AVal) : evP .e (.ext 0 (.c (.tup (a :: l)))) = some a := rfl
theorem ext1 (a b : AVal) (l : List AVal) : evP .e (.ext 1 (.c (.tup (a :: b :: l)))) = some b := rfl
theorem ext2 (a b c : AVal) (l : List AVal) : evP .e (.ext 2 (.c (.tup (a :: b :: c :: l)))) = some c := rfl
theorem ext3 (a b c d : AVal) (l : List AVal) : evP .e (.ext 3 (.c (.tup (a :: b :: c :: d :: l)))) = some d := rfl
section
variable {ro : List ABlk} {h : Heap} {v : AVal}
theorem row_by {hp : Heap} {z : List Int} (a : IsRow ro h v z) (k : Keep h hp) : IsRow ro hp v z := by
  rw [take_eq k.1 k.2]; exact a.ext _
end

/-- one cell of a block is written -/
theorem Holds.set {ro : List ABlk} {h hp : Heap} {b k : Nat} {vs : List AVal} {v : AVal} (a : Holds hp b vs) (hk : k < vs.length) (hv : v.one = true) (hc : v.cells = [v]) (hn : nonp [v] = true) (hL : h.length ≤ b) (kp : Keep h hp) :
    ∃ hp', stepM ro ⟨hp, h.length, h.length⟩ (.st 1 (.c (.p (some ⟨false, b, 0 + k * 1⟩))) (.c v)) = some (und, ⟨hp', h.length, h.length⟩) ∧ Holds hp' b (vs.set k v) ∧ hp'.length = hp.length ∧ (∀ i, i ≠ b → hp'[i]? = hp[i]?) ∧ Keep h hp' := by
  obtain ⟨blk, h1, h2, h3⟩ := a
  have e : 0 + k * 1 = k := by omega
  refine ⟨hp.set b (some { blk with c := blk.c.set k v }), ?_, ⟨_, lget_set h1 _, by simpa using h2, fun j hj => ?_⟩, by simp, fun i hi => List.getElem?_set_ne (Ne.symm hi), kp.set hL _⟩
  · rw [e, st_heap h1 (by omega) hv hc hn, Nat.min_eq_left hL]
  · show (blk.c.set k v).get j = _
    rw [get_set]
    simp only [List.length_set] at hj
    by_cases e : k = j
    · subst e; simp [List.getD, hj]
    · rw [if_neg e, h3 j hj]
      simp [List.getD, List.getElem?_set_ne e]


/-- a loop whose state is known for each round -/
theorem loop_st {S R : Type} {b : S → Option (S ⊕ R)} (st : Nat → S) (n : Nat) (step : Nat → Option R) (r0 : R) (hout : b (st n) = some (.inr r0)) (hin : ∀ i, i < n → b (st i) = some (match step i with | some r => .inr r | none => .inl (st (i + 1)))) :
    ∀ (k i : Nat), i + k = n → loopX b (st i) = some ((firstS step k i).getD r0)
  | 0, i, hi => by
    simp only [Nat.add_zero] at hi
    subst hi
    exact loopX_out hout
  | k + 1, i, hi => by
    have h1 := hin i (by omega)
    unfold firstS
    cases hs : step i with
    | some r => rw [hs] at h1; exact loopX_out h1
    | none =>
      rw [hs] at h1
      exact loopX_on h1 (loop_st st n step r0 hout hin k (i + 1) (by omega))
/-- one that runs to its end -/
theorem loop_run {S R : Type} {b : S → Option (S ⊕ R)} (st : Nat → S) (n : Nat) {r0 : R} (hout : b (st n) = some (.inr r0)) (hin : ∀ i, i < n → b (st i) = some (.inl (st (i + 1)))) : loopX b (st 0) = some r0 := by
  have := loop_st st n (fun _ => none) r0 hout hin n 0 (by omega)
  rw [firstS_none.2 fun _ _ _ => rfl] at this
  exact this
/-- one that looks for something -/
theorem loop_if {S R : Type} {b : S → Option (S ⊕ R)} (st : Nat → S) (n : Nat) (P : Nat → Prop) [DecidablePred P] (r0 r1 : R) (hout : b (st n) = some (.inr r0)) (hin : ∀ i, i < n → P i → b (st i) = some (.inl (st (i + 1)))) (hno : ∀ i, i < n → ¬ P i → b (st i) = some (.inr r1)) :
    loopX b (st 0) = some (if (∀ i, i < n → P i) then r0 else r1) := by
  have := loop_st st n (fun i => if P i then none else some r1) r0 hout (fun i hi => by
    by_cases hp : P i
    · rw [if_pos hp]; exact hin i hi hp
    · rw [if_neg hp]; exact hno i hi hp) n 0 (by omega)
  rw [this]
  by_cases hall : ∀ i, i < n → P i
  · rw [if_pos hall, firstS_none.2 fun j _ h2 => by rw [if_pos (hall j (by omega))]]; rfl
  · rw [if_neg hall]
    cases hf : firstS (fun i => if P i then none else some r1) n 0 with
    | none =>
      refine absurd (fun i hi => ?_) hall
      have := firstS_none.1 hf i (by omega) (by omega)
      simpa using this
    | some r =>
      obtain ⟨j, -, -, h3, -⟩ := firstS_some hf
      by_cases hc : P j
      · rw [if_pos hc] at h3; cases h3
      · rw [if_neg hc] at h3; cases h3; rfl

theorem dT {p : Prop} [Decidable p] (h : p) : decide p = true := decide_eq_true h
theorem dF {p : Prop} [Decidable p] (h : ¬ p) : decide p = false := decide_eq_false h
theorem cM {F : Tab} {ro : List ABlk} {h H : Heap} {f : Nat} {a : List AVal} {v : AVal} {l p : Nat} (e : callX F ro f a h = some (v, H, h.length, h.length)) (hl : l ≤ h.length) (hp : p ≤ h.length) : callM (callX F ro) ⟨h, l, p⟩ f a = some (v, ⟨H, l, p⟩) := by
  rw [callM_eq e, Nat.min_eq_left hl, Nat.min_eq_left hp]
theorem fin_any {h H : Heap} {w : AVal} (k : Keep h H) : ∃ H', finM h.length w ⟨H, h.length, h.length⟩ = some (w, H', h.length, h.length) ∧ Keep h H' ∧ (w.bel h.length = false → H' = H) := by
  obtain ⟨y, h1, h2⟩ := fin_gen (h := h) (h' := H) (v := w) (l := h.length) (p := h.length) k.1 k.2
  exact ⟨h ++ y, h1, Keep.app y, h2⟩
/-- a list read in a heap that keeps another one, below that one's length, is in that one -/
theorem row_down {ro : List ABlk} {h H : Heap} {v : AVal} {z : List Int} (k : Keep h H) (a : IsRow ro H v z) (hb : v.bel h.length = true) : IsRow ro h v z := by
  rcases a with ⟨rfl, rfl⟩ | ⟨q, cap, blk, rfl, hb2, hn, hc⟩
  · exact .inl ⟨rfl, rfl⟩
  · refine .inr ⟨q, cap, blk, rfl, ?_, hn, hc⟩
    have h1 : (q.ro || Nat.blt q.b h.length) = true := by simpa [AVal.bel] using hb
    unfold rdB at hb2 ⊢
    cases hr : q.ro
    · rw [hr] at h1 hb2
      have h2 : q.b < h.length := by simpa [Nat.blt_eq] using h1
      simp only [cond_false] at hb2 ⊢
      rw [← lget_of (k.2 q.b h2)]; exact hb2
    · rw [hr] at hb2; exact hb2
theorem fin_rowW {ro : List ABlk} {h H : Heap} {v w : AVal} {z : List Int} (k : Keep h H) (a : IsRow ro H v z) (hw : w.bel h.length = v.bel h.length) :
    ∃ H', finM h.length w ⟨H, h.length, h.length⟩ = some (w, H', h.length, h.length) ∧ Keep h H' ∧ IsRow ro H' v z := by
  obtain ⟨H', h1, h2, h3⟩ := fin_any (w := w) k
  refine ⟨H', h1, h2, ?_⟩
  cases hb : w.bel h.length
  · rw [h3 hb]; exact a
  · exact row_by (row_down k a (by rw [← hw]; exact hb)) h2
theorem loop_gen {S R : Type} {b : S → Option (S ⊕ R)} (n : Nat) (I : Nat → S → Prop) (Q : R → Prop)
    (hin : ∀ i s, i < n → I i s → ∃ s', b s = some (.inl s') ∧ I (i + 1) s') (hout : ∀ s, I n s → ∃ r, b s = some (.inr r) ∧ Q r) :
    ∀ (k i : Nat) (s : S), i + k = n → I i s → ∃ r, loopX b s = some r ∧ Q r
  | 0, i, s, hk, hi => by
    obtain rfl : i = n := by omega
    obtain ⟨r, h1, h2⟩ := hout s hi
    exact ⟨r, loopX_out h1, h2⟩
  | k + 1, i, s, hk, hi => by
    obtain ⟨s1, h1, h2⟩ := hin i s (by omega) hi
    obtain ⟨r, h3, h4⟩ := loop_gen n I Q hin hout k (i + 1) s1 (by omega) h2
    exact ⟨r, loopX_on h1 h3, h4⟩
theorem loop_exit {S R : Type} {b : S → Option (S ⊕ R)} (n : Nat) (I : Nat → S → Prop) (Q : R → Prop)
    (hin : ∀ i s, i < n → I i s → (∃ s', b s = some (.inl s') ∧ I (i + 1) s') ∨ ∃ r, b s = some (.inr r) ∧ Q r) (hout : ∀ s, I n s → ∃ r, b s = some (.inr r) ∧ Q r) :
    ∀ (k i : Nat) (s : S), i + k = n → I i s → ∃ r, loopX b s = some r ∧ Q r
  | 0, i, s, hk, hi => by
    obtain rfl : i = n := by omega
    obtain ⟨r, h1, h2⟩ := hout s hi
    exact ⟨r, loopX_out h1, h2⟩
  | k + 1, i, s, hk, hi => by
    rcases hin i s (by omega) hi with ⟨s1, h1, h2⟩ | ⟨r, h1, h2⟩
    · obtain ⟨r, h3, h4⟩ := loop_exit n I Q hin hout k (i + 1) s1 (by omega) h2
      exact ⟨r, loopX_on h1 h3, h4⟩
    · exact ⟨r, loopX_out h1, h2⟩

theorem same_ok {ro : List ABlk} {h : Heap} {a b : AVal} {x y : List Int} (ha : IsRow ro h a x) (hb : IsRow ro h b y) (hx : x.length ≤ 1000000) :
    callX F1 ro 8 [a, b] h = some (.b (decide (x = y)), h, h.length, h.length) := by
  refine g8_ok (meansX_ok F1 ro) rfl ?_
  unfold g8
  simp only [len_row ha, len_row hb, bindO_some, asI_i, forceB_eq, eqI_eq, meansX_loop]
  by_cases hl : x.length = y.length
  · have e : ((x.length : Int) == (y.length : Int)) = true := by simp [hl]
    simp only [e, Bool.not_true, cond_false]
    have hloop := loop_if (b := fun s => g8_b0 (meansX F1 ro) ro a b ⟨h, h.length, h.length⟩ s) (fun i => (i : Int)) x.length (fun i => x.getD i 0 = y.getD i 0) (.inl ()) (.inr false) ?_ ?_ ?_
    · have e0 : ((0 : Nat) : Int) = 0 := rfl
      rw [e0] at hloop
      rw [hloop]
      by_cases hxy : x = y
      · rw [if_pos (fun i _ => by rw [hxy])]
        simp only [bindO_some, hxy, decide_true, tupA]
        exact fin_pure rfl
      · rw [if_neg (fun hall => hxy (List.ext_getElem hl fun i h1 h2 => by have := hall i h1; simpa [List.getD, h1, h2] using this))]
        simp only [bindO_some, hxy, decide_false, tupA]
        exact fin_pure rfl
    · simp only [g8_b0, len_row ha, bindO_some, asI_i, forceB_eq, ltI_eq]
      simp
    · intro i hi hp
      obtain ⟨p, h1, h2, h3⟩ := at_row (m := ⟨h, h.length, h.length⟩) rfl ha hi
      obtain ⟨p', h1', h2', h3'⟩ := at_row (m := ⟨h, h.length, h.length⟩) rfl hb (by omega : i < y.length)
      have e := lt_yes hi
      have e2 : (!(x.getD i 0 == y.getD i 0)) = false := by rw [hp]; simp
      simp only [g8_b0, len_row ha, bindO_some, asI_i, forceB_eq, ltI_eq, e, cond_true, h1, h3, h1', h3', eqI_eq, e2, cond_false, forceI_eq]
      rw [wr_id' (by omega) (by omega)]
      rfl
    · intro i hi hp
      obtain ⟨p, h1, h2, h3⟩ := at_row (m := ⟨h, h.length, h.length⟩) rfl ha hi
      obtain ⟨p', h1', h2', h3'⟩ := at_row (m := ⟨h, h.length, h.length⟩) rfl hb (by omega : i < y.length)
      have e := lt_yes hi
      have e2 : (!(x.getD i 0 == y.getD i 0)) = true := by simpa using hp
      simp only [g8_b0, len_row ha, bindO_some, asI_i, forceB_eq, ltI_eq, e, cond_true, h1, h3, h1', h3', eqI_eq, e2]
  · have e : ((x.length : Int) == (y.length : Int)) = false := by simp; omega
    have hxy : ¬ (x = y) := fun e => hl (by rw [e])
    simp only [e, Bool.not_false, cond_true, hxy, decide_false, tupA]
    exact fin_pure rfl
end Go.Proofs.Ytdjffnfjbeiomaa.T

/- Lists that a function makes by append. -/
open Go.Vm
set_option linter.unusedVariables false
namespace Go.Proofs.Ytdjffnfjbeiomaa.T
open Go

/-- a list made by append, in a block from L on -/
def GV (hp : Heap) (L e es : Nat) (v : AVal) (k : Nat) (cs : List AVal) : Prop :=
  (v = .nsl ∧ k = 0 ∧ cs = []) ∨ ∃ b blk, v = .sl ⟨false, b, 0⟩ k .grow ∧ 0 < k ∧ L ≤ b ∧ lget hp b = some (some blk) ∧ blk.e = e ∧ cs.length = k * es ∧ k * es ≤ blk.n ∧ ∀ j, j < k * es → blk.c.get j = cs.getD j und
theorem GV.nil (hp : Heap) (L e es : Nat) : GV hp L e es .nsl 0 [] := .inl ⟨rfl, rfl, rfl⟩
/-- blocks below L, and those above that are kept, hold the list as before -/
theorem GV.by {hp hp' : Heap} {L e es k : Nat} {v : AVal} {cs : List AVal} (g : GV hp L e es v k cs) (kp : Keep hp hp') : GV hp' L e es v k cs := by
  rcases g with h | ⟨b, blk, h1, h2, h3, h4, h5⟩
  · exact .inl h
  · exact .inr ⟨b, blk, h1, h2, h3, by rw [lget_of (kp.2 b (lget_lt h4))]; exact h4, h5⟩
theorem row_row {t : Tr} : ∀ (n i : Nat) (cs : List AVal), cs.length = n → (∀ j, j < n → t.get (i + j) = cs.getD j und) → t.row i n = cs := by
  intro n i cs hl h
  subst hl
  exact row_list cs i h
theorem GV.push {ro : List ABlk} {hp : Heap} {L0 L e es bytes k : Nat} {z : List AVal} {v w : AVal} {cs ws : List AVal} (g : GV hp L e es v k cs) (hL0 : L0 ≤ L) (hL : L ≤ hp.length) (hk : k ≤ 100000) (hb : bytes ≤ 1000) (hes : 0 < es) (hz : z.length = es) (hw : w.cells = ws) (hwl : ws.length = es) (ho : ones ws = true) (hsp : splice z 0 ws = ws) :
    ∃ v2 hp2 v3 hp3, stepM ro ⟨hp, L0, L0⟩ (.bsl e es z 1 [((0, es), .c w)]) = some (v2, ⟨hp2, L0, L0⟩) ∧ stepM ro ⟨hp2, L0, L0⟩ (.app e es bytes z (.c v) (.c v2)) = some (v3, ⟨hp3, L0, L0⟩) ∧
      GV hp3 L e es v3 (k + 1) (cs ++ ws) ∧ hp.length ≤ hp3.length ∧ ∀ i, i < L → hp3[i]? = hp[i]? := by
  have s1 : stepM ro ⟨hp, L0, L0⟩ (.bsl e es z 1 [((0, es), .c w)]) = some (.sl ⟨false, hp.length, 0⟩ 1 (.known 1), ⟨hp ++ [some (blkOf e ws)], L0, L0⟩) := by
    simp [stepM, stepK, st_bsl, rep, fillA, opd, hw, hwl, hz, hsp, newB, St.mm]
  have src : app_src ro (hp ++ [some (blkOf e ws)]) es (.sl ⟨false, hp.length, 0⟩ 1 (.known 1)) = some (ws, 1) := by
    have hbq : rdB ro (hp ++ [some (blkOf e ws)]) ⟨false, hp.length, 0⟩ = some (blkOf e ws) := by simp [rdB, lget_eq]
    have hg : (blkOf e ws).c.row 0 es = ws := row_row es 0 ws hwl fun j hj => by rw [Nat.zero_add, get_blk]
    have hble : Nat.ble (0 + 1 * es) (blkOf e ws).n = true := by rw [Nat.ble_eq]; show 0 + 1 * es ≤ ws.length; omega
    simp only [app_src, hbq, hble, cond_true]
    rw [show 1 * es = es by omega, hg]
  rcases g with ⟨rfl, rfl, rfl⟩ | ⟨b, blk, rfl, hpos, hLb, hbk, hbe, hcl, hbn, hrows⟩
  · refine ⟨_, _, .sl ⟨false, hp.length + 1, 0⟩ 1 .grow, hp ++ [some (blkOf e ws)] ++ [some (blkOf e ws)], s1, ?_, .inr ⟨hp.length + 1, blkOf e ws, rfl, by omega, by omega, ?_, rfl, by simp; omega, by show 1 * es ≤ ws.length; omega, fun j hj => ?_⟩, by simp, fun i hi => ?_⟩
    · have hb1 : Nat.beq 1 0 = false := rfl
      simp only [stepM, stepK, opd, st_app, src, hb1, cond_false, fits_small (by omega : 1 ≤ 1000000) hb, cond_true, newB, St.mm, List.length_append, List.length_cons, List.length_nil, Nat.zero_add]
    · have := lget_last (hp ++ [some (blkOf e ws)]) (some (blkOf e ws))
      rwa [List.length_append, List.length_singleton] at this
    · rw [get_blk]; simp
    · rw [List.append_assoc, List.getElem?_append_left (by omega)]
  · obtain ⟨hp2, e2⟩ : ∃ hp2, hp2 = hp ++ [some (blkOf e ws)] := ⟨_, rfl⟩
    rw [← e2] at src s1
    have hlt : b < hp.length := lget_lt hbk
    have hb2 : lget hp2 b = some (some blk) := by rw [e2]; exact lget_ext hbk _
    have hlen2 : hp2.length = hp.length + 1 := by rw [e2]; simp
    have hrow : blk.c.row 0 (k * es) = cs := row_row (k * es) 0 cs hcl fun j hj => by rw [Nat.zero_add]; exact hrows j hj
    have hke : 0 < k * es := Nat.mul_pos hpos hes
    refine ⟨_, _, .sl ⟨false, hp2.length, 0⟩ (k + 1) .grow, lset none hp2 b ++ [some (blkOf e (cs ++ ws))], s1, ?_, .inr ⟨hp2.length, blkOf e (cs ++ ws), rfl, by omega, by omega, ?_, rfl, ?_, ?_, fun j hj => ?_⟩, ?_, fun i hi => ?_⟩
    · have h1 : (Nat.beq blk.e e && Nat.ble (k * es) blk.n && fits (k + 1) bytes && ones ws) = true := by
        rw [hbe, fits_small (by omega : k + 1 ≤ 1000000) hb]
        simp [ho, Nat.ble_eq]; omega
      have h2 : (!Nat.beq 0 0) = false := rfl
      have h3 : Nat.blt 0 blk.n = true := by rw [Nat.blt_eq]; omega
      have hb10 : Nat.beq 1 0 = false := rfl
      simp only [stepM, stepK, opd, st_app, src, app_grow, hb10, h2, cond_false, Bool.or_false, Bool.false_or, hb2, h1, h3, Bool.and_self, cond_true, St.mm, hrow, Nat.min_eq_left (Nat.le_trans hL0 hLb)]
    · rw [lget_eq, lset_eq, List.getElem?_append_right (by simp)]
      simp
    · rw [List.length_append, hcl, hwl, Nat.add_mul]; omega
    · show (k + 1) * es ≤ (cs ++ ws).length
      rw [List.length_append, hcl, hwl, Nat.add_mul]; omega
    · rw [get_blk]
    · simp [lset_eq]; omega
    · rw [lset_eq, List.getElem?_append_left (by simp; omega), List.getElem?_set_ne (by omega), e2, List.getElem?_append_left (by omega)]
theorem GV.row {ro : List ABlk} {hp : Heap} {L e : Nat} {v : AVal} {k : Nat} {z : List Int} (g : GV hp L e 1 v k (z.map (AVal.i .i64))) (hk : z.length = k) : IsRow ro hp v z := by
  subst hk
  rcases g with ⟨rfl, h2, -⟩ | ⟨b, blk, rfl, hpos, hLb, hbk, hbe, hcl, hbn, hrows⟩
  · exact .inl ⟨rfl, List.length_eq_zero_iff.1 h2⟩
  · refine .inr ⟨_, _, blk, rfl, rdB_heap hbk 0, by simpa using hbn, fun j hj => ?_⟩
    rw [Nat.zero_add, hrows j (by omega), map_getD hj]
end Go.Proofs.Ytdjffnfjbeiomaa.T

/- Groups as bits: the operations on them. -/
open Go.Vm
set_option linter.unusedVariables false
namespace Go.Proofs.Ytdjffnfjbeiomaa.T
open Go

theorem shl64 {a c : Nat} (hc : c ≤ 60) (hr : a * 2 ^ c < 9223372036854775808) : shlV .i64 (a : Int) (c : Int) = ((a * 2 ^ c : Nat) : Int) := by
  unfold shlV
  have : min ((c : Int).toNat) (IntKind.i64.bits) = c := by
    show min c 64 = c
    omega
  rw [this]
  have e : ((a : Int) * ((2 ^ c : Nat) : Int)) = ((a * 2 ^ c : Nat) : Int) := (Int.natCast_mul _ _).symm
  show Go.Vm.wr .i64 ((a : Int) * ((2 ^ c : Nat) : Int)) = _
  rw [e, wr_id' (by omega) (by omega)]
theorem shr64 {a c : Nat} (hc : c ≤ 60) : shrV .i64 (a : Int) (c : Int) = ((a / 2 ^ c : Nat) : Int) := by
  unfold shrV
  have : min ((c : Int).toNat) (IntKind.i64.bits) = c := by
    show min c 64 = c
    omega
  rw [this]
  show Int.fdiv (a : Int) (((2 ^ c : Nat)) : Int) = _
  rw [Int.fdiv_eq_ediv_of_nonneg _ (Int.natCast_nonneg _)]
  norm_cast
theorem neg_ltI {a : Nat} : (!ltI (a : Int) (.ofNat 0)) = true := by
  rw [ltI_eq]
  have : decide ((a : Int) < Int.ofNat 0) = false := decide_eq_false (by show ¬ ((a : Int) < 0); omega)
  rw [this]; rfl
theorem shl1 {a : Nat} (ha : a ≤ 60) : shlV .i64 1 (a : Int) = ((2 ^ a : Nat) : Int) := by
  have h2 : 2 ^ a ≤ 2 ^ 60 := Nat.pow_le_pow_right (by omega) ha
  have := shl64 (a := 1) (c := a) ha (by omega)
  rw [Nat.one_mul] at this
  exact this
end Go.Proofs.Ytdjffnfjbeiomaa.T

/- Blocks of numbers that a function makes and writes; copies. -/
open Go.Vm
set_option linter.unusedVariables false
namespace Go.Proofs.Ytdjffnfjbeiomaa.T
open Go

abbrev ints (z : List Int) : List AVal := z.map (AVal.i .i64)
/-- a block of numbers -/
abbrev HI (hp : Heap) (b : Nat) (z : List Int) : Prop := Holds hp b (ints z)
theorem rep_ints (n : Nat) : rep [AVal.i .i64 0] n = ints (List.replicate n 0) := by
  induction n with
  | zero => rfl
  | succ n ih => simp [rep, ih, List.replicate_succ]
section
variable {ro : List ABlk} {h hp : Heap} {b k n : Nat} {z : List Int} {v : AVal}
theorem HI.row (a : HI hp b z) {m : Nat} {cap : Cap} (hm : m = z.length) : IsRow ro hp (.sl ⟨false, b, 0⟩ m cap) z := by
  subst hm
  obtain ⟨blk, h1, h2, h3⟩ := a
  refine .inr ⟨_, _, blk, rfl, rdB_heap h1 0, by rw [h2]; simp, fun j hj => ?_⟩
  rw [Nat.zero_add, h3 j (by simpa using hj), map_getD hj]
theorem mkI (hn : n ≤ 1000) {l p : Nat} : stepM ro ⟨hp, l, p⟩ (.mk 3 1 8 [.i .i64 0] (.c (.i .i64 (n : Int))) (.c (.i .i64 (n : Int)))) = some (.sl ⟨false, hp.length, 0⟩ n (.known n), ⟨hp ++ [some (newBlk 3 (.i .i64 0) n)], l, p⟩) ∧ HI (hp ++ [some (newBlk 3 (.i .i64 0) n)]) hp.length (List.replicate n 0) := by
  refine ⟨mk_ok hn (by omega), ?_⟩
  unfold newBlk
  rw [rep_ints]
  exact Holds.new _ _ _
theorem HI.wr {x : Int} (a : HI hp b z) (hk : k < z.length) (hL : h.length ≤ b) (kp : Keep h hp) : ∃ hp', writesM ro [] [(⟨false, b, 0 + k⟩, AVal.cells (.i .i64 x))] ⟨hp, h.length, h.length⟩ = some ⟨hp', h.length, h.length⟩ ∧ HI hp' b (z.set k x) ∧ hp'.length = hp.length ∧ (∀ i, i ≠ b → hp'[i]? = hp[i]?) ∧ Keep h hp' := by
  have a0 := a
  obtain ⟨blk, h1, h2, h3⟩ := a
  rw [List.length_map] at h2 h3
  have e0 : 0 + k = k := by omega
  refine ⟨hp.set b (some { blk with c := blk.c.set k (.i .i64 x) }), ?_, ⟨_, lget_set h1 _, by simpa using h2, fun j hj => ?_⟩, by simp, fun i hi => List.getElem?_set_ne (Ne.symm hi), kp.set hL _⟩
  · rw [e0]
    have := wr_heap (ro := ro) (l := h.length) (p := h.length) (off := k) (v := .i .i64 x) h1 (by omega) rfl rfl
    rw [Nat.min_eq_left hL] at this
    exact this
  · show (blk.c.set k (.i .i64 x)).get j = _
    rw [get_set]
    simp only [List.length_map, List.length_set] at hj
    rw [map_getD (by simpa using hj)]
    by_cases e : k = j
    · subst e; simp [List.getD, hj]
    · rw [if_neg e, h3 j hj, map_getD hj]
      simp [List.getD, List.getElem?_set_ne e]
theorem HI.st1 {x : Int} (a : HI hp b z) (hk : k < z.length) (hL : h.length ≤ b) (kp : Keep h hp) : ∃ hp', stepM ro ⟨hp, h.length, h.length⟩ (.st 1 (.c (.p (some ⟨false, b, 0 + k⟩))) (.c (.i .i64 x))) = some (und, ⟨hp', h.length, h.length⟩) ∧ HI hp' b (z.set k x) ∧ hp'.length = hp.length ∧ (∀ i, i ≠ b → hp'[i]? = hp[i]?) ∧ Keep h hp' := by
  obtain ⟨hp', h1, h2, h3⟩ := Holds.set (ro := ro) (k := k) (v := .i .i64 x) a (by simpa using hk) rfl rfl rfl hL kp
  rw [Nat.mul_one] at h1
  exact ⟨hp', h1, by unfold HI ints; rw [List.map_set]; exact h2, h3⟩
theorem ix_new {m : Nat} {cap : Cap} (hk : k < m) : evP .e (.ixS 1 (.c (.sl ⟨false, b, 0⟩ m cap)) (.c (.i .i64 (k : Int)))) = some (.p (some ⟨false, b, 0 + k⟩)) := ixS_eq hk
/-- a block that holds numbers is kept -/
theorem HI.by {hp' : Heap} (a : HI hp b z) (k : Keep hp hp') : HI hp' b z := Holds.by a k
end
theorem ext_getD {a b : List Int} (hl : a.length = b.length) (h : ∀ i, i < a.length → a.getD i 0 = b.getD i 0) : a = b := by
  refine List.ext_getElem hl fun i h1 h2 => ?_
  have := h i h1
  simpa [List.getD, h1, h2] using this
theorem set_get {z : List Int} {k j : Nat} {x : Int} (hk : k < z.length) : (z.set k x).getD j 0 = if k = j then x else z.getD j 0 := by
  by_cases e : k = j
  · subst e; simp [List.getD, hk]
  · rw [if_neg e]; simp [List.getD, List.getElem?_set_ne e]
theorem cp2 {F : Tab} {ro : List ABlk} {H : Heap} {l p : Nat} {f : Nat} {a : List AVal} {v : AVal} (e : callX F ro f a H = some (v, H, H.length, H.length)) (hl : l ≤ H.length) (hp : p ≤ H.length) : callM (callX F ro) ⟨H, l, p⟩ f a = some (v, ⟨H, l, p⟩) := callM_pure e hl hp
section
variable {ro : List ABlk}
/-- alive, wherever -/
theorem alv {H : Heap} {l p : Nat} (hl : l ≤ H.length) (hp : p ≤ H.length) : callM (callX F1 ro) ⟨H, l, p⟩ 5 [] = some (.b true, ⟨H, l, p⟩) := cp2 alive_pure hl hp
theorem bindP_of {β : Type} {o : Option (AVal × Mm)} {v : AVal} {m : Mm} {f : AVal → Mm → Option β} (h : o = some (v, m)) : bindP o f = f v m := by rw [h]; rfl
theorem bindO_of {α β : Type} {o : Option α} {v : α} {f : α → Option β} (h : o = some v) : bindO o f = f v := by rw [h]; rfl
theorem x0 (a : AVal) (l : List AVal) : evP .e (.ext 0 (.c (.tup (a :: l)))) = some a := (ext0 a l).trans (Eq.trans rfl rfl)
theorem x1 (a b : AVal) (l : List AVal) : evP .e (.ext 1 (.c (.tup (a :: b :: l)))) = some b := (ext1 a b l).trans (Eq.trans rfl rfl)
theorem x2 (a b c : AVal) (l : List AVal) : evP .e (.ext 2 (.c (.tup (a :: b :: c :: l)))) = some c := (ext2 a b c l).trans (Eq.trans rfl rfl)
theorem x3 (a b c d : AVal) (l : List AVal) : evP .e (.ext 3 (.c (.tup (a :: b :: c :: d :: l)))) = some d := (ext3 a b c d l).trans (Eq.trans rfl rfl)
theorem exC {ro : List ABlk} {k : Nat} {l : List AVal} {h : Heap} {n m : Nat} {H : Heap} (e : callX F1 ro k l h = some (.b true, H, n, m)) : ∃ h' lw lp, callX F1 ro k l h = some (.b true, h', lw, lp) := ⟨_, _, _, e⟩
theorem eqI_self (x : Int) : eqI x x = true := by rw [eqI_eq]; simp
end
theorem neqF {x y : Int} (e : x = y) : (!eqI x y) = false := by subst e; rw [eqI_self]; rfl
theorem eqT {x y : Int} (e : x = y) : eqI x y = true := by subst e; exact eqI_self x
theorem eqF {x y : Int} (e : x ≠ y) : eqI x y = false := by rw [eqI_eq]; exact beq_eq_false_iff_ne.2 e
theorem neqT {x y : Int} (e : x ≠ y) : (!eqI x y) = true := by rw [eqF e]; rfl
theorem last_cast {N : Nat} (h1 : 1 ≤ N) (h2 : N ≤ 1000000) : Go.Vm.wr .i64 (((N : Nat) : Int) - 1) = ((N - 1 : Nat) : Int) := by
  rw [wr_id' (by omega) (by omega)]; omega
end Go.Proofs.Ytdjffnfjbeiomaa.T

/- Labels that tell what hangs together. -/
open Go.Vm
set_option linter.unusedVariables false
namespace Go.Proofs.Ytdjffnfjbeiomaa.T
open Go

/-- labels of posts, merged along a pair -/
def mrg (L : List Int) (kept gone : Int) : List Int := L.map fun x => if x = gone then kept else x
abbrev at0 (L : List Int) (i : Nat) : Int := L.getD i 0
theorem mrg_len (L : List Int) (k g : Int) : (mrg L k g).length = L.length := by simp [mrg]
theorem mrg_get {L : List Int} {k g : Int} {i : Nat} (hi : i < L.length) : at0 (mrg L k g) i = if at0 L i = g then k else at0 L i := by simp [mrg, List.getD, hi]
/-- hanging together by some pairs -/
inductive Conn (E : List (Nat × Nat)) : Nat → Nat → Prop where
  | rfl (p : Nat) : Conn E p p
  | step {p q : Nat} (h : (p, q) ∈ E) : Conn E p q
  | symm {p q : Nat} (h : Conn E p q) : Conn E q p
  | trans {p q r : Nat} (h : Conn E p q) (h2 : Conn E q r) : Conn E p r
theorem Conn.mono {E F : List (Nat × Nat)} (h : ∀ x ∈ E, x ∈ F) {p q : Nat} (c : Conn E p q) : Conn F p q := by
  induction c with
  | rfl p => exact .rfl p
  | step h1 => exact .step (h _ h1)
  | symm _ ih => exact .symm ih
  | trans _ _ i1 i2 => exact .trans i1 i2
/-- labels that tell what hangs together -/
def Tells (n : Nat) (L : List Int) (E : List (Nat × Nat)) : Prop := L.length = n ∧ (∀ x ∈ E, x.1 < n ∧ x.2 < n) ∧ ∀ p q, p < n → q < n → (at0 L p = at0 L q ↔ Conn E p q)
theorem conn_nil {p q : Nat} (c : Conn [] p q) : p = q := by
  induction c with
  | rfl p => rfl
  | step h => cases h
  | symm _ ih => exact ih.symm
  | trans _ _ i1 i2 => exact i1.trans i2
theorem conn_lt {n : Nat} {E : List (Nat × Nat)} (hE : ∀ x ∈ E, x.1 < n ∧ x.2 < n) {p q : Nat} (c : Conn E p q) : p = q ∨ (p < n ∧ q < n) := by
  induction c with
  | rfl p => exact .inl rfl
  | step h => exact .inr (hE _ h)
  | symm _ ih => rcases ih with h | h; exact .inl h.symm; exact .inr ⟨h.2, h.1⟩
  | trans _ _ i1 i2 =>
    rcases i1 with h | h
    · subst h; exact i2
    · rcases i2 with h2 | h2
      · subst h2; exact .inr h
      · exact .inr ⟨h.1, h2.2⟩
/-- a pair more: either direction -/
theorem Tells.add {n : Nat} {L : List Int} {E : List (Nat × Nat)} (t : Tells n L E) {a b : Nat} (ha : a < n) (hb : b < n) {k g : Int} (hkg : (k = at0 L a ∧ g = at0 L b) ∨ (k = at0 L b ∧ g = at0 L a)) : Tells n (mrg L k g) (E ++ [(a, b)]) := by
  obtain ⟨hl, hE, ht⟩ := t
  have hE2 : ∀ x ∈ E ++ [(a, b)], x.1 < n ∧ x.2 < n := fun x hx => by
    rcases List.mem_append.1 hx with h | h
    · exact hE x h
    · simp at h; subst h; exact ⟨ha, hb⟩
  have hm : ∀ {p q : Nat}, Conn E p q → Conn (E ++ [(a, b)]) p q := fun c => c.mono fun x hx => by simp [hx]
  have hab : Conn (E ++ [(a, b)]) a b := .step (by simp)
  refine ⟨by rw [mrg_len, hl], hE2, fun p q hp hq => ?_⟩
  rw [mrg_get (by omega), mrg_get (by omega)]
  constructor
  · intro h
    have cls : ∀ r, r < n → at0 L r = g → Conn (E ++ [(a, b)]) r a := fun r hr e => by
      rcases hkg with ⟨-, h2⟩ | ⟨-, h2⟩
      · exact (hm ((ht r b hr hb).1 (by rw [e, h2]))).trans hab.symm
      · exact hm ((ht r a hr ha).1 (by rw [e, h2]))
    have clk : ∀ r, r < n → at0 L r = k → Conn (E ++ [(a, b)]) r a := fun r hr e => by
      rcases hkg with ⟨h2, -⟩ | ⟨h2, -⟩
      · exact hm ((ht r a hr ha).1 (by rw [e, h2]))
      · exact (hm ((ht r b hr hb).1 (by rw [e, h2]))).trans hab.symm
    by_cases h1 : at0 L p = g
    · rw [if_pos h1] at h
      by_cases h2 : at0 L q = g
      · exact (cls p hp h1).trans (cls q hq h2).symm
      · rw [if_neg h2] at h
        exact (cls p hp h1).trans (clk q hq h.symm).symm
    · rw [if_neg h1] at h
      by_cases h2 : at0 L q = g
      · rw [if_pos h2] at h
        exact (clk p hp h).trans (cls q hq h2).symm
      · rw [if_neg h2] at h
        exact hm ((ht p q hp hq).1 h)
  · intro c
    have key : ∀ {p q : Nat}, Conn (E ++ [(a, b)]) p q → p < n → q < n → (if at0 L p = g then k else at0 L p) = (if at0 L q = g then k else at0 L q) := by
      intro p q c
      induction c with
      | rfl p => intro _ _; rfl
      | @step p q h =>
        intro hp hq
        rcases List.mem_append.1 h with h | h
        · have := (ht p q hp hq).2 (.step h)
          rw [this]
        · simp only [List.mem_singleton, Prod.mk.injEq] at h
          obtain ⟨rfl, rfl⟩ := h
          rcases hkg with ⟨h1, h2⟩ | ⟨h1, h2⟩
          · rw [if_pos h2.symm]
            by_cases e : at0 L p = g
            · rw [if_pos e]
            · rw [if_neg e, h1]
          · rw [if_pos h2.symm]
            by_cases e : at0 L q = g
            · rw [if_pos e]
            · rw [if_neg e, h1]
      | symm _ ih => intro hp hq; exact (ih hq hp).symm
      | @trans p q r c1 _ i1 i2 =>
        intro hp hr
        by_cases hq : q < n
        · exact (i1 hp hq).trans (i2 hq hr)
        · rcases conn_lt hE2 c1 with e | e
          · subst e; exact absurd hp hq
          · exact absurd e.2 hq
    exact key c hp hq
/-- how many labels there are, as the first posts that bear them -/
def isFst (L : List Int) (p : Nat) : Bool := (List.range p).all fun q => !(at0 L q == at0 L p)
def cntB (f : Nat → Bool) : Nat → Nat
  | 0 => 0
  | i + 1 => cntB f i + cond (f i) 1 0
def cls (n : Nat) (L : List Int) : Nat := cntB (isFst L) n
theorem isFst_iff {L : List Int} {p : Nat} : isFst L p = true ↔ ∀ q, q < p → at0 L q ≠ at0 L p := by
  unfold isFst
  rw [List.all_eq_true]
  constructor
  · intro h q hq
    have := h q (List.mem_range.2 hq)
    simpa using this
  · intro h q hq
    have := h q (List.mem_range.1 hq)
    simpa using this
theorem cntB_congr {f g : Nat → Bool} : ∀ n, (∀ i, i < n → f i = g i) → cntB f n = cntB g n
  | 0, _ => rfl
  | n + 1, h => by unfold cntB; rw [cntB_congr n fun i hi => h i (by omega), h n (by omega)]
/-- two counts that differ at one place alone -/
theorem cntB_one {f g : Nat → Bool} {x : Nat} (hf : f x = false) (hg : g x = true) : ∀ n, x < n → (∀ i, i < n → i ≠ x → f i = g i) → cntB g n = cntB f n + 1
  | 0, hx, _ => by omega
  | n + 1, hx, h => by
    unfold cntB
    by_cases e : x = n
    · subst e
      rw [cntB_congr x fun i hi => h i (by omega) (by omega), hf, hg]; rfl
    · rw [cntB_one hf hg n (by omega) fun i hi hne => h i (by omega) hne, h n (by omega) (fun h2 => e h2.symm)]
      omega
theorem cls_rel {n : Nat} {L M : List Int} (h : ∀ p q, p < n → q < n → (at0 L p = at0 L q ↔ at0 M p = at0 M q)) : cls n L = cls n M := by
  unfold cls
  refine cntB_congr n fun i hi => ?_
  rw [Bool.eq_iff_iff, isFst_iff, isFst_iff]
  exact ⟨fun h1 q hq e => h1 q hq ((h q i (by omega) hi).2 e), fun h1 q hq e => h1 q hq ((h q i (by omega) hi).1 e)⟩
theorem Tells.cls {n : Nat} {L M : List Int} {E F : List (Nat × Nat)} (a : Tells n L E) (b : Tells n M F) (h : ∀ x, x ∈ E ↔ x ∈ F) : cls n L = cls n M :=
  cls_rel fun p q hp hq => by
    rw [a.2.2 p q hp hq, b.2.2 p q hp hq]
    exact ⟨Conn.mono fun x hx => (h x).1 hx, Conn.mono fun x hx => (h x).2 hx⟩
/-- the first post of a label -/
theorem first_of {L : List Int} : ∀ p, ∃ a, a ≤ p ∧ at0 L a = at0 L p ∧ isFst L a = true
  | 0 => ⟨0, Nat.le_refl _, rfl, by rw [isFst_iff]; intro q hq; omega⟩
  | p + 1 => by
    by_cases h : isFst L (p + 1) = true
    · exact ⟨p + 1, Nat.le_refl _, rfl, h⟩
    · have h2 : ∃ q, q < p + 1 ∧ at0 L q = at0 L (p + 1) := by
        apply Classical.byContradiction
        intro hn
        exact h (isFst_iff.2 fun q hq e => hn ⟨q, hq, e⟩)
      obtain ⟨q, hq, e⟩ := h2
      have key : ∀ d q, q ≤ d → d < p + 1 → ∃ a, a ≤ q ∧ at0 L a = at0 L q ∧ isFst L a = true := by
        intro d
        induction d with
        | zero => intro q hq _; obtain rfl : q = 0 := by omega
                  exact ⟨0, Nat.le_refl _, rfl, by rw [isFst_iff]; intro q hq; omega⟩
        | succ d ih =>
          intro q hq hd
          by_cases e2 : q ≤ d
          · exact ih q e2 (by omega)
          · by_cases h3 : isFst L q = true
            · exact ⟨q, Nat.le_refl _, rfl, h3⟩
            · have h4 : ∃ r, r < q ∧ at0 L r = at0 L q := by
                apply Classical.byContradiction
                intro hn
                exact h3 (isFst_iff.2 fun r hr e => hn ⟨r, hr, e⟩)
              obtain ⟨r, hr, e4⟩ := h4
              obtain ⟨a, a1, a2, a3⟩ := ih r (by omega) (by omega)
              exact ⟨a, by omega, a2.trans e4, a3⟩
      obtain ⟨a, a1, a2, a3⟩ := key p q (by omega) (by omega)
      exact ⟨a, by omega, a2.trans e, a3⟩
/-- a merge of two labels makes one label fewer -/
theorem cls_mrg {n : Nat} {L : List Int} (hl : L.length = n) {a b : Nat} (ha : a < n) (hb : b < n) (hne : at0 L a ≠ at0 L b) : cls n L = cls n (mrg L (at0 L a) (at0 L b)) + 1 := by
  obtain ⟨x, x1, x2, x3⟩ := first_of (L := L) a
  obtain ⟨y, y1, y2, y3⟩ := first_of (L := L) b
  have hxy : x ≠ y := fun e => hne (by rw [← x2, e, y2])
  have hM : ∀ p, p < n → at0 (mrg L (at0 L a) (at0 L b)) p = if at0 L p = at0 L b then at0 L a else at0 L p := fun p hp => mrg_get (by omega)
  have hfx := isFst_iff.1 x3
  have hfy := isFst_iff.1 y3
  unfold cls
  -- the greater one of the two first posts is no longer a first one
  have key : ∀ u v, u < v → v < n → ((u = x ∧ v = y) ∨ (u = y ∧ v = x)) → cntB (isFst L) n = cntB (isFst (mrg L (at0 L a) (at0 L b))) n + 1 := by
    intro u v huv hv huv2
    have hmu : at0 (mrg L (at0 L a) (at0 L b)) u = at0 L a := by
      rw [hM u (by omega)]
      rcases huv2 with ⟨rfl, -⟩ | ⟨rfl, -⟩
      · rw [if_neg (by rw [x2]; exact hne), x2]
      · rw [if_pos y2]
    have hmv : at0 (mrg L (at0 L a) (at0 L b)) v = at0 L a := by
      rw [hM v hv]
      rcases huv2 with ⟨-, rfl⟩ | ⟨-, rfl⟩
      · rw [if_pos y2]
      · rw [if_neg (by rw [x2]; exact hne), x2]
    have hLv : isFst L v = true := by rcases huv2 with ⟨-, rfl⟩ | ⟨-, rfl⟩; exact y3; exact x3
    refine cntB_one (x := v) ?_ hLv n hv fun i hi hne2 => ?_
    · cases h : isFst (mrg L (at0 L a) (at0 L b)) v
      · rfl
      · exact absurd (hmu.trans hmv.symm) (isFst_iff.1 h u huv)
    · rw [Bool.eq_iff_iff, isFst_iff, isFst_iff]
      constructor
      · intro h q hq
        -- q < i, labels after the merge equal: so before they were equal
        intro e
        refine h q hq ?_
        rw [hM q (by omega), hM i hi, e]
      · intro h q hq e
        rw [hM q (by omega), hM i hi] at e
        by_cases h1 : at0 L q = at0 L b
        · rw [if_pos h1] at e
          by_cases h2 : at0 L i = at0 L b
          · exact h q hq (by rw [h1, h2])
          · rw [if_neg h2] at e
            -- i has the label of a, q that of b, q before i: i is first, so i is x; y is at most q
            have hix : i = x := by
              refine Nat.le_antisymm ?_ ?_
              · refine Nat.le_of_not_lt fun hlt => ?_
                exact h x hlt (by rw [x2, e])
              · refine Nat.le_of_not_lt fun hlt => ?_
                exact hfx i hlt (by rw [x2, e])
            have hyq : y ≤ q := Nat.le_of_not_lt fun hlt => hfy q hlt (by rw [y2, h1])
            rcases huv2 with ⟨e1, e2⟩ | ⟨e1, e2⟩
            · omega
            · omega
        · rw [if_neg h1] at e
          by_cases h2 : at0 L i = at0 L b
          · rw [if_pos h2] at e
            have hiy : i = y := by
              refine Nat.le_antisymm ?_ ?_
              · refine Nat.le_of_not_lt fun hlt => ?_
                exact h y hlt (by rw [y2, h2])
              · refine Nat.le_of_not_lt fun hlt => ?_
                exact hfy i hlt (by rw [y2, h2])
            have hxq : x ≤ q := Nat.le_of_not_lt fun hlt => hfx q hlt (by rw [x2, e])
            rcases huv2 with ⟨e1, e2⟩ | ⟨e1, e2⟩
            · omega
            · omega
          · rw [if_neg h2] at e
            exact h q hq e
  rcases Nat.lt_or_gt_of_ne hxy with h | h
  · exact key x y h (by omega) (.inl ⟨rfl, rfl⟩)
  · exact key y x h (by omega) (.inr ⟨rfl, rfl⟩)
/-- the direction of a merge doesn't matter to how many labels there are -/
theorem mrg_same {L : List Int} {k : Int} : mrg L k k = L := by
  unfold mrg
  have : (fun x : Int => if x = k then k else x) = id := by
    funext x
    by_cases e : x = k
    · simp [e]
    · simp [e]
  rw [this, List.map_id]
end Go.Proofs.Ytdjffnfjbeiomaa.T

/- The groups of a garden. -/
open Go.Vm
set_option linter.unusedVariables false
namespace Go.Proofs.Ytdjffnfjbeiomaa.T
open Go

section
variable {ro : List ABlk} {h hp : Heap} {b k : Nat} {z : List Int}
theorem ldA_at (a : HI hp b z) (hk : k < z.length) {off : Nat} (ho : off = k) : ldA ro hp true 1 (.p (some ⟨false, b, off⟩)) = some (.i .i64 (z.getD k 0)) := by
  subst ho
  have := Holds.oneA (ro := ro) (k := off) a (by simpa using hk)
  rw [Nat.zero_add, map_getD hk] at this
  exact this
theorem ldM_at (a : HI hp b z) (hk : k < z.length) {off l p : Nat} (ho : off = k) : ldM ro ⟨hp, l, p⟩ true 1 (.p (some ⟨false, b, off⟩)) = some (.i .i64 (z.getD k 0)) := by
  subst ho
  have := Holds.one (ro := ro) (l := l) (p := p) (k := off) a (by simpa using hk)
  rw [Nat.zero_add, map_getD hk] at this
  exact this
theorem st_at {x : Int} (a : HI hp b z) (hk : k < z.length) {off : Nat} (ho : off = k) (hL : h.length ≤ b) (kp : Keep h hp) : ∃ hp', stepM ro ⟨hp, h.length, h.length⟩ (.st 1 (.c (.p (some ⟨false, b, off⟩))) (.c (.i .i64 x))) = some (und, ⟨hp', h.length, h.length⟩) ∧ HI hp' b (z.set k x) ∧ hp'.length = hp.length ∧ (∀ i, i ≠ b → hp'[i]? = hp[i]?) ∧ Keep h hp' := by
  subst ho
  obtain ⟨hp', h1, h2⟩ := HI.st1 (ro := ro) (x := x) a hk hL kp
  rw [Nat.zero_add] at h1
  exact ⟨hp', h1, h2⟩
theorem ixA_n {len es o i : Nat} (hi : i < len) : evP .e (.ixA len es (.c (.p (some ⟨false, b, o⟩))) (.c (.i .i64 (i : Int)))) = some (.p (some ⟨false, b, o + i * es⟩)) := p_ixA rfl hi
theorem ld_all (a : HI hp b z) {n l p : Nat} (hn : n = z.length) : ldM ro ⟨hp, l, p⟩ false n (.p (some ⟨false, b, 0⟩)) = some (.agg (ints z)) := Holds.all a (by simpa using hn)
/-- two cells of a block -/
theorem ld_two {l p off : Nat} (a : HI hp b z) (hk : k + 1 < z.length) (ho : off = k) : ldM ro ⟨hp, l, p⟩ false 2 (.p (some ⟨false, b, off⟩)) = some (.agg [.i .i64 (z.getD k 0), .i .i64 (z.getD (k + 1) 0)]) := by
  subst ho
  obtain ⟨blk, h1, h2, h3⟩ := a
  rw [List.length_map] at h2 h3
  have hc : Nat.ble (off + 2) blk.n = true := by rw [Nat.ble_eq]; omega
  simp only [ldM, Go.Vm.rd, rdB_heap h1, cond_false, hc, cond_true]
  have e1 : blk.c.get off = .i .i64 (z.getD off 0) := by rw [h3 off (by omega), map_getD (by omega)]
  have e2 : blk.c.get (off + 1) = .i .i64 (z.getD (off + 1) 0) := by rw [h3 (off + 1) (by omega), map_getD (by omega)]
  simp only [Tr.row, e1, e2]
/-- a new block, written whole -/
theorem al_st {e n : Nat} {x y : List Int} (kp : Keep h hp) (hx : x.length = n) (hy : y.length = n) : ∃ hp', stepM ro ⟨hp, h.length, h.length⟩ (.al e (ints x)) = some (.p (some ⟨false, hp.length, 0⟩), ⟨hp ++ [some (blkOf e (ints x))], h.length, h.length⟩) ∧
    stepM ro ⟨hp ++ [some (blkOf e (ints x))], h.length, h.length⟩ (.st n (.c (.p (some ⟨false, hp.length, 0⟩))) (.c (.agg (ints y)))) = some (und, ⟨hp', h.length, h.length⟩) ∧ HI hp' hp.length y ∧ Keep hp hp' ∧ hp'.length = hp.length + 1 := by
  have ha : Holds (hp ++ [some (blkOf e (ints x))]) hp.length (ints x) := Holds.new _ _ _
  have k1 : Keep h (hp ++ [some (blkOf e (ints x))]) := kp.trans (Keep.app _)
  obtain ⟨hp', s1, s2, s3, s4, s5⟩ := Holds.st (ro := ro) (n := n) (v := .agg (ints y)) (vs' := ints y) ha rfl (by simp [hy]) (by simp [hx, hy]) (ones_ints y) kp.1 k1
  refine ⟨hp', al_ok _ _, s1, s2, ⟨by rw [s3]; simp, fun i hi => ?_⟩, by rw [s3]; simp⟩
  rw [s4 i (by omega), List.getElem?_append_left hi]
end
/-- the pairs of a garden -/
def prA (z : List Int) (i : Nat) : Nat := (z.getD (1 + 2 * i) 0).toNat
def prB (z : List Int) (i : Nat) : Nat := (z.getD (2 + 2 * i) 0).toNat
structure Gdn (z : List Int) (m : Nat) : Prop where
  len : z.length = 29
  cnt : z.getD 0 0 = (m : Int)
  le : m ≤ 14
  a : ∀ i, i < m → z.getD (1 + 2 * i) 0 = (prA z i : Int) ∧ prA z i < 8
  b : ∀ i, i < m → z.getD (2 + 2 * i) 0 = (prB z i : Int) ∧ prB z i < 8
def idL (n : Nat) : List Int := (List.range n).map fun i : Nat => ((i : Nat) : Int)
theorem idL_len (n : Nat) : (idL n).length = n := by simp [idL]
theorem idL_get {n i : Nat} (hi : i < n) : at0 (idL n) i = (i : Int) := by unfold at0 idL; exact range_get hi
/-- the program's labels -/
def lbP (z : List Int) : Nat → List Int
  | 0 => idL 8
  | i + 1 => mrg (lbP z i) (at0 (lbP z i) (prA z i)) (at0 (lbP z i) (prB z i))
theorem lbP_len (z : List Int) : ∀ i, (lbP z i).length = 8
  | 0 => rfl
  | i + 1 => by show (mrg _ _ _).length = 8; rw [mrg_len, lbP_len z i]
/-- a merge, some posts of it made -/
def mrgTo (L : List Int) (kept gone : Int) (j : Nat) : List Int := (List.range L.length).map fun i => if i < j ∧ at0 L i = gone then kept else at0 L i
theorem mrgTo_len (L : List Int) (k g : Int) (j : Nat) : (mrgTo L k g j).length = L.length := by simp [mrgTo]
theorem mrgTo_get {L : List Int} {k g : Int} {j i : Nat} (hi : i < L.length) : (mrgTo L k g j).getD i 0 = if i < j ∧ at0 L i = g then k else at0 L i := by unfold mrgTo; exact range_get hi
theorem mrgTo_zero (L : List Int) (k g : Int) : mrgTo L k g 0 = L := ext_getD (mrgTo_len _ _ _ _) fun i hi => by
  rw [mrgTo_len] at hi
  rw [mrgTo_get hi, if_neg (by omega)]
theorem mrgTo_all {L : List Int} {k g : Int} : mrgTo L k g L.length = mrg L k g := ext_getD (by rw [mrgTo_len, mrg_len]) fun i hi => by
  rw [mrgTo_len] at hi
  have := mrg_get (k := k) (g := g) hi
  unfold at0 at this
  rw [mrgTo_get hi, this]
  by_cases e : at0 L i = g
  · rw [if_pos ⟨hi, e⟩, if_pos e]
  · rw [if_neg (fun hh => e hh.2), if_neg e]
theorem mrgTo_skip {L : List Int} {k g : Int} {j : Nat} (hj : j < L.length) (h : at0 L j ≠ g) : mrgTo L k g (j + 1) = mrgTo L k g j := ext_getD (by rw [mrgTo_len, mrgTo_len]) fun i hi => by
  rw [mrgTo_len] at hi
  rw [mrgTo_get hi, mrgTo_get hi]
  by_cases e : i = j
  · subst e; rw [if_neg (fun hh => h hh.2), if_neg (fun hh => h hh.2)]
  · by_cases e2 : i < j ∧ at0 L i = g
    · rw [if_pos ⟨by omega, e2.2⟩, if_pos e2]
    · rw [if_neg e2, if_neg (fun hh => e2 ⟨by omega, hh.2⟩)]
theorem mrgTo_set {L : List Int} {k g : Int} {j : Nat} (hj : j < L.length) (h : at0 L j = g) : (mrgTo L k g j).set j k = mrgTo L k g (j + 1) := ext_getD (by rw [List.length_set, mrgTo_len, mrgTo_len]) fun i hi => by
  rw [List.length_set, mrgTo_len] at hi
  rw [set_get (by rw [mrgTo_len]; exact hj), mrgTo_get hi, mrgTo_get hi]
  by_cases e : j = i
  · subst e; rw [if_pos rfl, if_pos ⟨by omega, h⟩]
  · rw [if_neg e]
    by_cases e2 : i < j ∧ at0 L i = g
    · rw [if_pos e2, if_pos ⟨by omega, e2.2⟩]
    · rw [if_neg e2, if_neg (fun hh => e2 ⟨by omega, hh.2⟩)]
theorem ixS_two {q : Vm.Loc} {len : Nat} {cap : Cap} {i : Nat} (hi : i < len) : evP .e (.ixS 2 (.c (.sl q len cap)) (.c (.i .i64 (i : Int)))) = some (.p (some ⟨q.ro, q.b, q.off + i * 2⟩)) := by
  have e : ((i : Int)) = Int.ofNat i := rfl
  have hb : Nat.blt i len = true := by rw [Nat.blt_eq]; exact hi
  rw [e]
  simp only [evP, ev_ixS, opd, atI, hb, cond_true]
theorem ixV8 {L : List Int} (hl : L.length = 8) {i : Nat} (hi : i < 8) : evP .e (.ixV 8 1 true (.c (.agg (ints L))) (.c (.i .i64 (i : Int)))) = some (.i .i64 (at0 L i)) := by
  have e : ((i : Int)) = Int.ofNat i := rfl
  have hb : Nat.blt i 8 = true := by rw [Nat.blt_eq]; exact hi
  rw [e]
  simp only [evP, ev_ixV, opd, hb, cond_true, partA, if_true, Nat.mul_one]
  rw [lget_eq, List.getElem?_map, List.getElem?_eq_getElem (by omega)]
  simp [List.getD, show i < L.length by omega]
section
variable {ro : List ABlk} {h : Heap}
theorem bxI {hp : Heap} {l p : Nat} {z : List Int} {e n : Nat} (hz : z.length = n) : stepM ro ⟨hp, l, p⟩ (.bx e n (.c (.agg (ints z)))) = some (.p (some ⟨false, hp.length, 0⟩), ⟨hp ++ [some (blkOf e (ints z))], l, p⟩) := bx_ok e (by simpa using hz)
theorem merge30 {H : Heap} {b3 : Nat} {v2 v21 : AVal} {x22 x23 kept gone : Int} {L : List Int} (hl : L.length = 8) (kp : Keep h H) (hb : h.length ≤ b3) (hz : HI H b3 L) :
    ∃ H', loopX (fun t : Int × Mm => g30_b2 (meansX F1 ro) ro v2 (.p (some ⟨false, b3, 0⟩)) kept gone v21 x22 x23 (.agg (ints L)) t.1 t.2) (0, ⟨H, h.length, h.length⟩) = some ⟨H', h.length, h.length⟩ ∧ Keep h H' ∧ HI H' b3 (mrg L kept gone) ∧ H'.length = H.length ∧ ∀ m, m ≠ b3 → H'[m]? = H[m]? := by
  have key := loop_gen (b := fun t : Int × Mm => g30_b2 (meansX F1 ro) ro v2 (.p (some ⟨false, b3, 0⟩)) kept gone v21 x22 x23 (.agg (ints L)) t.1 t.2) 8
    (fun j t => ∃ H', t = ((j : Int), (⟨H', h.length, h.length⟩ : Mm)) ∧ Keep h H' ∧ HI H' b3 (mrgTo L kept gone j) ∧ H'.length = H.length ∧ ∀ i, i ≠ b3 → H'[i]? = H[i]?)
    (fun r => ∃ H', r = (⟨H', h.length, h.length⟩ : Mm) ∧ Keep h H' ∧ HI H' b3 (mrg L kept gone) ∧ H'.length = H.length ∧ ∀ i, i ≠ b3 → H'[i]? = H[i]?) ?_ ?_ 8 0 (0, ⟨H, h.length, h.length⟩) (by omega) ⟨H, rfl, kp, by rw [mrgTo_zero]; exact hz, rfl, fun _ _ => rfl⟩
  · obtain ⟨r, r1, H', rfl, h1⟩ := key
    exact ⟨H', r1, h1⟩
  · rintro j t hj ⟨H', rfl, kp', hz', hl', ho⟩
    have e8 : decide ((j : Int) < 8) = true := dT (by omega)
    simp only [g30_b2, forceB_eq, ltI_eq, e8, cond_true, ixV8 hl hj, bindO_some, asI_i, forceI_eq, wr_next (show j ≤ 1000000 by omega)]
    by_cases e : at0 L j = gone
    · obtain ⟨H2, w1, w2, w3, w4, w5⟩ := st_at (ro := ro) (x := kept) (k := j) hz' (by rw [mrgTo_len]; omega) (off := 0 + j * 1) (by omega) hb kp'
      simp only [eqT e, cond_true, ixA_n (b := b3) (o := 0) (es := 1) hj, bindO_some, w1, bindP_some]
      refine ⟨_, rfl, H2, rfl, w5, by rw [← mrgTo_set (by omega) e]; exact w2, by rw [w3, hl'], fun i hi => by rw [w4 i hi]; exact ho i hi⟩
    · simp only [eqF e, cond_false, bindO_some]
      exact ⟨_, rfl, H', rfl, kp', by rw [mrgTo_skip (by omega) e]; exact hz', hl', ho⟩
  · rintro t ⟨H', rfl, kp', hz', hl', ho⟩
    have e8 : decide (((8 : Nat) : Int) < 8) = false := rfl
    simp only [g30_b2, forceB_eq, ltI_eq, e8, cond_false]
    refine ⟨_, rfl, H', rfl, kp', ?_, hl', ho⟩
    rw [← hl, mrgTo_all] at hz'
    exact hz'
theorem groups30 {z : List Int} {m : Nat} (g : Gdn z m) : callX F1 ro 30 [.agg (ints z)] h = some (.agg (ints (lbP z m)), h, h.length, h.length) := by
  have hl := g.len
  obtain ⟨H1, e1⟩ : ∃ H1, H1 = h ++ [some (blkOf 49 (ints z))] := ⟨_, rfl⟩
  obtain ⟨H2, e2⟩ : ∃ H2, H2 = H1 ++ [some (blkOf 56 (ints (List.replicate 8 0)))] := ⟨_, rfl⟩
  obtain ⟨H3, e3⟩ : ∃ H3, H3 = H2 ++ [some (blkOf 56 (ints (List.replicate 8 0)))] := ⟨_, rfl⟩
  have l1 : H1.length = h.length + 1 := by rw [e1]; simp
  have l2 : H2.length = h.length + 2 := by rw [e2]; simp [l1]
  have l3 : H3.length = h.length + 3 := by rw [e3]; simp [l2]
  have k1 : Keep h H1 := by rw [e1]; exact Keep.app _
  have k2 : Keep H1 H2 := by rw [e2]; exact Keep.app _
  have k3 : Keep H2 H3 := by rw [e3]; exact Keep.app _
  have k13 := (k1.trans k2).trans k3
  have hg : HI H3 h.length z := ((by rw [e1]; exact Holds.new _ _ _ : HI H1 h.length z).by k2).by k3
  have hv2 : HI H3 H1.length (List.replicate 8 0) := (by rw [e2]; exact Holds.new _ _ _ : HI H2 H1.length (List.replicate 8 0)).by k3
  have hv3 : HI H3 H2.length (List.replicate 8 0) := by rw [e3]; exact Holds.new _ _ _
  have s1 : stepM ro ⟨h, h.length, h.length⟩ (.bx 49 29 (.c (.agg (ints z)))) = some (.p (some ⟨false, h.length, 0⟩), ⟨H1, h.length, h.length⟩) := by rw [e1]; exact bxI hl
  have s2 : stepM ro ⟨H1, h.length, h.length⟩ (.al 56 [(AVal.i IntKind.i64 0), (AVal.i IntKind.i64 0), (AVal.i IntKind.i64 0), (AVal.i IntKind.i64 0), (AVal.i IntKind.i64 0), (AVal.i IntKind.i64 0), (AVal.i IntKind.i64 0), (AVal.i IntKind.i64 0)]) = some (.p (some ⟨false, H1.length, 0⟩), ⟨H2, h.length, h.length⟩) := by rw [e2]; exact al_ok _ _
  have s3 : stepM ro ⟨H2, h.length, h.length⟩ (.al 56 [(AVal.i IntKind.i64 0), (AVal.i IntKind.i64 0), (AVal.i IntKind.i64 0), (AVal.i IntKind.i64 0), (AVal.i IntKind.i64 0), (AVal.i IntKind.i64 0), (AVal.i IntKind.i64 0), (AVal.i IntKind.i64 0)]) = some (.p (some ⟨false, H2.length, 0⟩), ⟨H3, h.length, h.length⟩) := by rw [e3]; exact al_ok _ _
  -- each post by itself
  have first := loop_gen (b := fun t : Int × Mm => g30_b0 (meansX F1 ro) ro (.p (some ⟨false, h.length, 0⟩)) (.p (some ⟨false, H1.length, 0⟩)) (.p (some ⟨false, H2.length, 0⟩)) t.1 t.2) 8
    (fun j t => ∃ H L, t = ((j : Int), (⟨H, h.length, h.length⟩ : Mm)) ∧ Keep h H ∧ HI H h.length z ∧ HI H H1.length (List.replicate 8 0) ∧ HI H H2.length L ∧ L.length = 8 ∧ (∀ i, i < j → L.getD i 0 = (i : Int)) ∧ H.length = h.length + 3)
    (fun r => ∃ H, r = (⟨H, h.length, h.length⟩ : Mm) ∧ Keep h H ∧ HI H h.length z ∧ HI H H1.length (List.replicate 8 0) ∧ HI H H2.length (idL 8) ∧ H.length = h.length + 3) ?_ ?_ 8 0 (0, ⟨H3, h.length, h.length⟩) (by omega) ⟨H3, _, rfl, k13, hg, hv2, hv3, by simp, fun i hi => by omega, l3⟩
  rotate_left
  · rintro j t hj ⟨H, L, rfl, kp, q1, q2, q3, q4, q5, q6⟩
    have e8 : decide ((j : Int) < 8) = true := dT (by omega)
    obtain ⟨H', w1, w2, w3, w4, w5⟩ := st_at (ro := ro) (x := (j : Int)) (k := j) q3 (by omega) (off := 0 + j * 1) (by omega) (by omega) kp
    simp only [g30_b0, forceB_eq, ltI_eq, e8, cond_true, ixA_n (b := H2.length) (o := 0) (es := 1) hj, bindO_some, w1, bindP_some, forceI_eq, wr_next (show j ≤ 1000000 by omega)]
    refine ⟨_, rfl, H', _, rfl, w5, q1.keep (w4 _ (by omega)), q2.keep (w4 _ (by omega)), w2, by simpa using q4, fun i hi => ?_, by omega⟩
    rw [set_get (by omega)]
    by_cases e : j = i
    · subst e; rw [if_pos rfl]
    · rw [if_neg e]; exact q5 i (by omega)
  · rintro t ⟨H, L, rfl, kp, q1, q2, q3, q4, q5, q6⟩
    have e8 : decide (((8 : Nat) : Int) < 8) = false := rfl
    simp only [g30_b0, forceB_eq, ltI_eq, e8, cond_false]
    have e : L = idL 8 := ext_getD (by rw [q4, idL_len]) fun i hi => by rw [q5 i (by omega)]; exact (idL_get (by omega)).symm
    rw [e] at q3
    exact ⟨_, rfl, H, rfl, kp, q1, q2, q3, q6⟩
  obtain ⟨r, r1, H4, rfl, k4, p1, p2, p3, p4⟩ := first
  have hcut : evP .e (.slA 14 2 (.c (.p (some ⟨false, h.length, 0 + 1⟩))) none (some (.c (.i .i64 (m : Int))))) = some (.sl ⟨false, h.length, 0 + 1 + 0 * 2⟩ (m - 0) (.known (14 - 0))) := by
    have hble : Nat.ble m 14 = true := by rw [Nat.ble_eq]; exact g.le
    have e : ((m : Nat) : Int) = Int.ofNat m := rfl
    have hb0 : Nat.ble 0 m = true := by rw [Nat.ble_eq]; omega
    have hbl : Nat.blt 0 14 = true := rfl
    rw [e]
    simp only [evP, ev_slA, opd, Option.map_some, Option.map_none, sbound, hble, cond_true, hbl]
  have hlen : evP .e (.len false (.c (.sl ⟨false, h.length, 0 + 1 + 0 * 2⟩ (m - 0) (.known (14 - 0))))) = some (.i .i64 (m : Int)) := by
    simp [evP, ev_len, opd, mkI_eq]
  have second := loop_gen (b := fun t : Int × Mm => g30_b1 (meansX F1 ro) ro (.p (some ⟨false, H1.length, 0⟩)) (.p (some ⟨false, H2.length, 0⟩)) (.sl ⟨false, h.length, 0 + 1 + 0 * 2⟩ (m - 0) (.known (14 - 0))) (m : Int) t.1 t.2) m
    (fun i t => ∃ H, t = ((i : Int), (⟨H, h.length, h.length⟩ : Mm)) ∧ Keep h H ∧ HI H h.length z ∧ HI H H1.length (List.replicate 8 0) ∧ HI H H2.length (lbP z i) ∧ h.length + 3 ≤ H.length)
    (fun r => ∃ H, r = (⟨H, h.length, h.length⟩ : Mm) ∧ Keep h H ∧ HI H H1.length (List.replicate 8 0) ∧ HI H H2.length (lbP z m)) ?_ ?_ m 0 (0, ⟨H4, h.length, h.length⟩) (by omega) ⟨H4, rfl, k4, p1, p2, p3, by omega⟩
  rotate_left
  · rintro i t hi ⟨H, rfl, kp, q1, q2, q3, q4⟩
    obtain ⟨a1, a2⟩ := g.a i hi
    obtain ⟨b1, b2⟩ := g.b i hi
    have hle := g.le
    have ld := ld_two (ro := ro) (l := h.length) (p := h.length) (k := 1 + 2 * i) (off := 0 + 1 + 0 * 2 + i * 2) q1 (by omega) (by omega)
    rw [a1, show 1 + 2 * i + 1 = 2 + 2 * i by omega, b1] at ld
    obtain ⟨H5, t1, t2, t3, k5, l5⟩ := al_st (ro := ro) (e := 45) (n := 2) (x := [0, 0]) (y := [(prA z i : Int), (prB z i : Int)]) kp rfl rfl
    have kp5 := kp.trans k5
    have c0 := ldA_at (ro := ro) (k := 0) (off := 0 + 0) t3 (by simp) rfl
    have c1 := ldA_at (ro := ro) (k := 1) (off := 0 + 1) t3 (by simp) rfl
    have c2 := ldA_at (ro := ro) (k := prA z i) (off := 0 + prA z i * 1) (q3.by k5) (by rw [lbP_len]; exact a2) (by omega)
    have c3 := ldA_at (ro := ro) (k := prB z i) (off := 0 + prB z i * 1) (q3.by k5) (by rw [lbP_len]; exact b2) (by omega)
    have c4 := ld_all (ro := ro) (l := h.length) (p := h.length) (n := 8) (q3.by k5) (by rw [lbP_len])
    obtain ⟨H6, m1, m2, m3, m4, m5⟩ := merge30 (ro := ro) (v2 := .p (some ⟨false, H1.length, 0⟩)) (v21 := .sl ⟨false, h.length, 0 + 1 + 0 * 2⟩ (m - 0) (.known (14 - 0))) (x22 := (m : Int)) (x23 := (i : Int)) (kept := (lbP z i).getD (prA z i) 0) (gone := (lbP z i).getD (prB z i) 0) (b3 := H2.length) (lbP_len z i) kp5 (by omega) (q3.by k5)
    have t1' : stepM ro ⟨H, h.length, h.length⟩ (.al 45 [(AVal.i IntKind.i64 0), (AVal.i IntKind.i64 0)]) = some (.p (some ⟨false, H.length, 0⟩), ⟨H ++ [some (blkOf 45 (ints [0, 0]))], h.length, h.length⟩) := t1
    have t2' : stepM ro ⟨H ++ [some (blkOf 45 (ints [0, 0]))], h.length, h.length⟩ (.st 2 (.c (.p (some ⟨false, H.length, 0⟩))) (.c (.agg [.i .i64 (prA z i : Int), .i .i64 (prB z i : Int)]))) = some (und, ⟨H5, h.length, h.length⟩) := t2
    have c0' : ldA ro H5 true 1 (.p (some ⟨false, H.length, 0 + 0⟩)) = some (.i .i64 (prA z i : Int)) := c0
    have c1' : ldA ro H5 true 1 (.p (some ⟨false, H.length, 0 + 1⟩)) = some (.i .i64 (prB z i : Int)) := c1
    have hi2 : i < m - 0 := hi
    simp only [g30_b1, forceB_eq, ltI_eq, lt_yes hi, cond_true, ixS_two hi2, bindO_some, ld, t1', bindP_some, t2', p_faddr, c0', c1', asI_i, ixA_n (b := H2.length) (o := 0) (es := 1) (len := 8) a2, ixA_n (b := H2.length) (o := 0) (es := 1) (len := 8) b2, c2, c3, c4, meansX_loop, m1, forceI_eq, wr_next (show i ≤ 1000000 by omega)]
    refine ⟨_, rfl, H6, rfl, m2, (q1.by k5).keep (m5 _ (by omega)), (q2.by k5).keep (m5 _ (by omega)), m3, by omega⟩
  · rintro t ⟨H, rfl, kp, q1, q2, q3, q4⟩
    simp only [g30_b1, forceB_eq, ltI_eq, lt_no, cond_false]
    exact ⟨_, rfl, H, rfl, kp, q2, q3⟩
  obtain ⟨r, r2, H5, rfl, k5, u1, u2⟩ := second
  have c5 := ld_all (ro := ro) (l := h.length) (p := h.length) (n := 8) u2 (by rw [lbP_len])
  obtain ⟨H6, w1, w2, w3, w4, w5⟩ := Holds.st (ro := ro) (v := .agg (ints (lbP z m))) (vs' := ints (lbP z m)) (n := 8) (h := h) u1 rfl (by simp [lbP_len]) (by simp [lbP_len]) (ones_ints _) (by omega) k5
  have c6 := ld_all (ro := ro) (l := h.length) (p := h.length) (n := 8) w2 (by rw [lbP_len])
  have c7 := ldM_at (ro := ro) (l := h.length) (p := h.length) (k := 0) (off := 0 + 0) p1 (by omega) rfl
  rw [g.cnt] at c7
  refine g30_ok (meansX_ok F1 ro) rfl ?_
  unfold g30
  simp only [s1, bindP_some, s2, s3, meansX_loop]
  rw [r1]
  simp only [bindO_some, p_faddr, c7, asI_i, hcut, hlen]
  rw [r2]
  simp only [bindO_some, c5, w1, bindP_some, c6, tupA]
  have hb : (AVal.agg (ints (lbP z m))).bel h.length = true := by
    have : ∀ L : List Int, bels h.length (ints L) = true := fun L => by
      induction L with
      | nil => rfl
      | cons x L ih => simpa [ints, bels, AVal.bel] using ih
    simpa [AVal.bel] using this (lbP z m)
  exact fin_keep w5 hb
end
end Go.Proofs.Ytdjffnfjbeiomaa.T

/- The program: joins, a fence taken away. -/
open Go.Vm
set_option linter.unusedVariables false
namespace Go.Proofs.Ytdjffnfjbeiomaa.T
open Go

/-- part of a list replaced -/
def cpL (vs ws : List Int) (j k : Nat) : List Int := (List.range vs.length).map fun t => if j ≤ t ∧ t < j + k then ws.getD (t - j) 0 else vs.getD t 0
theorem cpL_len (vs ws : List Int) (j k : Nat) : (cpL vs ws j k).length = vs.length := by simp [cpL]
theorem cpL_get {vs ws : List Int} {j k t : Nat} (ht : t < vs.length) : (cpL vs ws j k).getD t 0 = if j ≤ t ∧ t < j + k then ws.getD (t - j) 0 else vs.getD t 0 := by unfold cpL; exact range_get ht
theorem nonp_ints : ∀ (w : List Int), nonp (ints w) = true
  | [] => rfl
  | n :: w => by
    have := nonp_ints w
    simp only [ints, List.map_cons, nonp, Bool.and_eq_true] at this ⊢
    exact ⟨rfl, this⟩
theorem bel_ints (n : Nat) (L : List Int) : (AVal.agg (ints L)).bel n = true := by
  have : ∀ L : List Int, bels n (ints L) = true := fun L => by
    induction L with
    | nil => rfl
    | cons x L ih => simpa [ints, bels, AVal.bel] using ih
  simpa [AVal.bel] using this L
section
variable {ro : List ABlk} {h hp : Heap} {b : Nat} {z w : List Int}
/-- some cells of a block are written -/
theorem HI.wrG {j : Nat} (a : HI hp b z) (hj : j + w.length ≤ z.length) : ∃ hp', wrH hp ⟨false, b, j⟩ (ints w) = some hp' ∧ HI hp' b (cpL z w j w.length) ∧ hp'.length = hp.length ∧ (∀ i, i ≠ b → hp'[i]? = hp[i]?) := by
  obtain ⟨blk, h1, h2, h3⟩ := a
  rw [List.length_map] at h2 h3
  refine ⟨hp.set b (some { blk with c := blk.c.splice j (ints w) }), ?_, ⟨_, lget_set h1 _, ?_, fun t ht => ?_⟩, by simp, fun i hi => List.getElem?_set_ne (Ne.symm hi)⟩
  · have : (Nat.ble (j + (ints w).length) blk.n && ones (ints w)) = true := by
      rw [ones_ints, Bool.and_true, Nat.ble_eq, List.length_map]; omega
    simp only [wrH, cond_false, h1, this, cond_true, lset_eq]
  · rw [List.length_map, cpL_len]; exact h2
  · rw [List.length_map, cpL_len] at ht
    rw [map_getD (by rw [cpL_len]; exact ht), cpL_get ht]
    show (blk.c.splice j (ints w)).get t = _
    rw [spliceGet, List.length_map]
    by_cases hc : j ≤ t ∧ t < j + w.length
    · rw [if_pos hc, if_pos hc, map_getD (by omega)]
    · rw [if_neg hc, if_neg hc, h3 t ht, map_getD ht]
theorem stG {j n off : Nat} (a : HI hp b z) (hn : w.length = n) (hj : j + n ≤ z.length) (ho : off = j) (hL : h.length ≤ b) (kp : Keep h hp) : ∃ hp', stepM ro ⟨hp, h.length, h.length⟩ (.st n (.c (.p (some ⟨false, b, off⟩))) (.c (.agg (ints w)))) = some (und, ⟨hp', h.length, h.length⟩) ∧ HI hp' b (cpL z w j n) ∧ hp'.length = hp.length ∧ (∀ i, i ≠ b → hp'[i]? = hp[i]?) ∧ Keep h hp' := by
  subst hn ho
  obtain ⟨hp', h1, h2, h3, h4⟩ := a.wrG (w := w) hj
  refine ⟨hp', ?_, h2, h3, h4, by rw [h3]; exact kp.1, fun i hi => by rw [h4 i (by omega)]; exact kp.2 i hi⟩
  have hbq : Nat.beq (ints w).length w.length = true := by rw [List.length_map]; exact Nat.beq_refl _
  have e : min h.length b = h.length := by omega
  simp only [stepM, stepK, opd, st_st, AVal.cells, hbq, cond_true, h1, nonp_ints, e, St.mm]
/-- cells copied within a block, or from another one -/
theorem cpG {j k n1 n2 : Nat} {q2 : Go.Vm.Loc} {sb : ABlk} {c1 c2 : Cap} (a : HI hp b z) (hs : rdB ro hp q2 = some sb) (hsn : q2.off + k * 2 ≤ sb.n) (hrow : sb.c.row q2.off (k * 2) = ints w) (hw : w.length = k * 2) (hk : k = min n2 n1) (hj : j + k * 2 ≤ z.length) (hL : h.length ≤ b) (kp : Keep h hp) :
    ∃ hp', stepM ro ⟨hp, h.length, h.length⟩ (.cpy 2 (.c (.sl ⟨false, b, j⟩ n1 c1)) (.c (.sl q2 n2 c2))) = some (.i .i64 (k : Int), ⟨hp', h.length, h.length⟩) ∧ HI hp' b (cpL z w j (k * 2)) ∧ hp'.length = hp.length ∧ (∀ i, i ≠ b → hp'[i]? = hp[i]?) ∧ Keep h hp' := by
  obtain ⟨hp', h1, h2, h3, h4⟩ := a.wrG (w := w) (j := j) (by omega)
  rw [hw] at h2
  refine ⟨hp', ?_, h2, h3, h4, by rw [h3]; exact kp.1, fun i hi => by rw [h4 i (by omega)]; exact kp.2 i hi⟩
  have hk' : min n2 n1 = k := hk.symm
  have e1 : Nat.ble (q2.off + k * 2) sb.n = true := by rw [Nat.ble_eq]; exact hsn
  have e : min h.length b = h.length := by omega
  simp only [stepM, stepK, opd, st_cpy, hs, hk', e1, cond_true, hrow, h1, nonp_ints, e, St.mm, mkI_eq]
theorem row_of {off k : Nat} (a : HI hp b z) (hk : off + k ≤ z.length) : ∃ sb, rdB ro hp ⟨false, b, off⟩ = some sb ∧ off + k ≤ sb.n ∧ sb.c.row off k = ints ((z.drop off).take k) := by
  obtain ⟨blk, h1, h2, h3⟩ := a
  rw [List.length_map] at h2 h3
  refine ⟨blk, rdB_heap h1 _, by omega, row_row k off _ (by rw [List.length_map, List.length_take, List.length_drop]; omega) fun j hj => ?_⟩
  rw [h3 (off + j) (by omega), map_getD (by omega), map_getD (by rw [List.length_take, List.length_drop]; omega)]
  simp [List.getD, List.getElem?_take, hj, List.getElem?_drop]

/-- how many posts don't stand for themselves -/
def jnB (L : List Int) (i : Nat) : Bool := !eqI (at0 L i) (i : Int)
theorem joins21 {m : Nat} (g : Gdn z m) : callX F1 ro 21 [.agg (ints z)] h = some (.i .i64 (cntB (jnB (lbP z m)) 8 : Nat), h, h.length, h.length) := by
  obtain ⟨H1, e1⟩ : ∃ H1, H1 = h ++ [some (blkOf 49 (ints z))] := ⟨_, rfl⟩
  have k1 : Keep h H1 := by rw [e1]; exact Keep.app _
  have hg : HI H1 h.length z := by rw [e1]; exact Holds.new _ _ _
  have s1 : stepM ro ⟨h, h.length, h.length⟩ (.bx 49 29 (.c (.agg (ints z)))) = some (.p (some ⟨false, h.length, 0⟩), ⟨H1, h.length, h.length⟩) := by rw [e1]; exact bxI g.len
  have s2 := ld_all (ro := ro) (l := h.length) (p := h.length) (n := 29) hg g.len.symm
  have s3 := cp2 (l := h.length) (p := h.length) (groups30 (ro := ro) (h := H1) g) (by have := k1.1; omega) (by have := k1.1; omega)
  have cb : ∀ (f : Nat → Bool) n, n ≤ 8 → cntB f n ≤ n := fun f n => by
    induction n with
    | zero => intro _; exact Nat.le_refl _
    | succ n ih => intro hn; have := ih (by omega); unfold cntB; cases f n <;> simp <;> omega
  have s4 := loop_run (b := fun s : Int × Int => g21_b0 (meansX F1 ro) ro (.agg (ints (lbP z m))) ⟨H1, h.length, h.length⟩ s.1 s.2) (fun i => (((cntB (jnB (lbP z m)) i : Nat) : Int), (i : Int))) 8 (r0 := ((cntB (jnB (lbP z m)) 8 : Nat) : Int))
    (by simp only [g21_b0, forceB_eq, ltI_eq]; rfl)
    (fun i hi => by
      have e8 : decide ((i : Int) < 8) = true := dT (by omega)
      have hcb := cb (jnB (lbP z m)) i (by omega)
      simp only [g21_b0, forceB_eq, ltI_eq, e8, cond_true, ixV8 (lbP_len z m) hi, bindO_some, asI_i, forceI_eq, wr_next (show i ≤ 1000000 by omega), wr_next (show cntB (jnB (lbP z m)) i ≤ 1000000 by omega)]
      have e : (!eqI (at0 (lbP z m) i) (i : Int)) = jnB (lbP z m) i := rfl
      rw [e]
      cases hh : jnB (lbP z m) i
      · have : cntB (jnB (lbP z m)) (i + 1) = cntB (jnB (lbP z m)) i := by rw [cntB, hh]; rfl
        rw [this]; rfl
      · have : cntB (jnB (lbP z m)) (i + 1) = cntB (jnB (lbP z m)) i + 1 := by rw [cntB, hh]; rfl
        rw [this]; rfl)
  refine g21_ok (meansX_ok F1 ro) rfl ?_
  unfold g21
  rw [bindP_of s1, bindO_of s2, meansX_call, bindP_of s3, meansX_loop]
  have s4' : loopX (fun s : Int × Int => g21_b0 (meansX F1 ro) ro (.agg (ints (lbP z m))) ⟨H1, h.length, h.length⟩ s.1 s.2) (0, 0) = _ := s4
  rw [bindO_of s4']
  exact fin_keep k1 rfl

/-- a garden without one of its fences -/
def tkz (z : List Int) (m i : Nat) : List Int := cpL ((cpL z ((z.drop (3 + 2 * i)).take ((13 - i) * 2)) (1 + 2 * i) ((13 - i) * 2)).set 0 ((m - 1 : Nat) : Int)) [0, 0] (1 + 2 * (m - 1)) 2
theorem taken29 {m i : Nat} (g : Gdn z m) (hi : i < m) : callX F1 ro 29 [.agg (ints z), .i .i64 (i : Int)] h = some (.agg (ints (tkz z m i)), h, h.length, h.length) := by
  have hm := g.le
  have hl := g.len
  obtain ⟨H1, e1⟩ : ∃ H1, H1 = h ++ [some (blkOf 49 (ints z))] := ⟨_, rfl⟩
  obtain ⟨H2, e2⟩ : ∃ H2, H2 = H1 ++ [some (blkOf 49 (ints (List.replicate 29 0)))] := ⟨_, rfl⟩
  have l1 : H1.length = h.length + 1 := by rw [e1]; simp
  have k1 : Keep h H1 := by rw [e1]; exact Keep.app _
  have k2 : Keep H1 H2 := by rw [e2]; exact Keep.app _
  have hg : HI H2 h.length z := (by rw [e1]; exact Holds.new _ _ _ : HI H1 h.length z).by k2
  have hz : HI H2 H1.length (List.replicate 29 0) := by rw [e2]; exact Holds.new _ _ _
  have s1 : stepM ro ⟨h, h.length, h.length⟩ (.bx 49 29 (.c (.agg (ints z)))) = some (.p (some ⟨false, h.length, 0⟩), ⟨H1, h.length, h.length⟩) := by rw [e1]; exact bxI g.len
  have s2 : stepM ro ⟨H1, h.length, h.length⟩ (.al 49 (ints (List.replicate 29 0))) = some (.p (some ⟨false, H1.length, 0⟩), ⟨H2, h.length, h.length⟩) := by rw [e2]; exact al_ok _ _
  have c1 : evP .e (.slA 14 2 (.c (.p (some ⟨false, h.length, 0 + 1⟩))) (some (.c (.i .i64 (i : Int)))) none) = some (.sl ⟨false, h.length, 0 + 1 + i * 2⟩ (14 - i) (.known (14 - i))) := by
    have e : ((i : Nat) : Int) = Int.ofNat i := rfl
    have hb0 : Nat.ble i 14 = true := by rw [Nat.ble_eq]; omega
    have hbl : Nat.blt i 14 = true := by rw [Nat.blt_eq]; omega
    rw [e]
    simp only [evP, ev_slA, opd, Option.map_some, Option.map_none, sbound, hb0, cond_true, hbl]
  have hcp : ∃ n v11, evP .e (.slA 14 2 (.c (.p (some ⟨false, h.length, 0 + 1⟩))) (some (.c (.i .i64 ((i + 1 : Nat) : Int)))) none) = some v11 ∧ ∃ H3, stepM ro ⟨H2, h.length, h.length⟩ (.cpy 2 (.c (.sl ⟨false, h.length, 0 + 1 + i * 2⟩ (14 - i) (.known (14 - i)))) (.c v11)) = some (.i .i64 n, ⟨H3, h.length, h.length⟩) ∧ HI H3 h.length (cpL z ((z.drop (3 + 2 * i)).take ((13 - i) * 2)) (1 + 2 * i) ((13 - i) * 2)) ∧ H3.length = H2.length ∧ (∀ t, t ≠ h.length → H3[t]? = H2[t]?) ∧ Keep h H3 := by
    have e : ((i + 1 : Nat) : Int) = Int.ofNat (i + 1) := rfl
    have hb0 : Nat.ble (i + 1) 14 = true := by rw [Nat.ble_eq]; omega
    by_cases h13 : i = 13
    · subst h13
      refine ⟨0, .esl, rfl, H2, rfl, ?_, rfl, fun _ _ => rfl, k1.trans k2⟩
      have : cpL z ((z.drop (3 + 2 * 13)).take ((13 - 13) * 2)) (1 + 2 * 13) ((13 - 13) * 2) = z := ext_getD (cpL_len _ _ _ _) fun t ht => by
        rw [cpL_len] at ht
        rw [cpL_get ht, if_neg (by omega)]
      rw [this]; exact hg
    · have hbl : Nat.blt (i + 1) 14 = true := by rw [Nat.blt_eq]; omega
      obtain ⟨sb, r1, r2, r3⟩ := row_of (ro := ro) (off := 0 + 1 + (i + 1) * 2) (k := (13 - i) * 2) hg (by omega)
      have eo : 0 + 1 + (i + 1) * 2 = 3 + 2 * i := by omega
      rw [eo] at r1 r2 r3
      obtain ⟨H3, w1, w2, w3, w4, w5⟩ := cpG (ro := ro) (h := h) (j := 1 + 2 * i) (k := 13 - i) (n1 := 14 - i) (n2 := 14 - (i + 1)) (q2 := ⟨false, h.length, 3 + 2 * i⟩) (c1 := .known (14 - i)) (c2 := .known (14 - (i + 1))) hg r1 r2 r3 (by rw [List.length_take, List.length_drop]; omega) (by omega) (by omega) (Nat.le_refl _) (k1.trans k2)
      refine ⟨((13 - i : Nat) : Int), .sl ⟨false, h.length, 3 + 2 * i⟩ (14 - (i + 1)) (.known (14 - (i + 1))), ?_, H3, ?_, w2, w3, w4, w5⟩
      · rw [e]
        simp only [evP, ev_slA, opd, Option.map_some, Option.map_none, sbound, hb0, cond_true, hbl, eo]
      · rw [show 0 + 1 + i * 2 = 1 + 2 * i by omega]; exact w1
  obtain ⟨n12, v11, c2, H3, w1, w2, w3, w4, k3⟩ := hcp
  have hD : (cpL z ((z.drop (3 + 2 * i)).take ((13 - i) * 2)) (1 + 2 * i) ((13 - i) * 2)).length = 29 := by rw [cpL_len, hl]
  have c3 := ldM_at (ro := ro) (l := h.length) (p := h.length) (k := 0) (off := 0 + 0) w2 (by omega) rfl
  rw [cpL_get (by omega), if_neg (by omega), g.cnt] at c3
  obtain ⟨H4, x1, x2, x3, x4, k4⟩ := st_at (ro := ro) (x := ((m - 1 : Nat) : Int)) (k := 0) (off := 0 + 0) w2 (by omega) rfl (Nat.le_refl _) k3
  have c4 := ldM_at (ro := ro) (l := h.length) (p := h.length) (k := 0) (off := 0 + 0) x2 (by rw [List.length_set]; omega) rfl
  rw [set_get (by omega), if_pos rfl] at c4
  obtain ⟨H5, y1, y2, y3, y4, k5⟩ := stG (ro := ro) (w := [0, 0]) (n := 2) (j := 1 + 2 * (m - 1)) (off := 0 + 1 + (m - 1) * 2) x2 rfl (by rw [List.length_set]; omega) (by omega) (Nat.le_refl _) k4
  have tl : (tkz z m i).length = 29 := by unfold tkz; rw [cpL_len, List.length_set]; exact hD
  change HI H5 h.length (tkz z m i) at y2
  have c5 := ld_all (ro := ro) (l := h.length) (p := h.length) (n := 29) y2 tl.symm
  have hz5 : HI H5 H1.length (List.replicate 29 0) := ((hz.keep (w4 _ (by omega))).keep (x4 _ (by omega))).keep (y4 _ (by omega))
  obtain ⟨H6, u1, u2, u3, u4, k6⟩ := Holds.st (ro := ro) (v := .agg (ints (tkz z m i))) (vs' := ints (tkz z m i)) (n := 29) (h := h) hz5 rfl (by simp [tl]) (by simp [tl]) (ones_ints _) (by omega) k5
  have c6 := ld_all (ro := ro) (l := h.length) (p := h.length) (n := 29) (z := tkz z m i) u2 tl.symm
  have cA : evP .e (.ixA 14 2 (.c (.p (some ⟨false, h.length, 0 + 1⟩))) (.c (.i .i64 ((m - 1 : Nat) : Int)))) = some (.p (some ⟨false, h.length, 0 + 1 + (m - 1) * 2⟩)) := ixA_n (by omega)
  refine g29_ok (meansX_ok F1 ro) rfl ?_
  unfold g29
  rw [bindP_of s1]
  refine (bindP_of s2).trans ?_
  simp only [p_faddr, bindO_some]
  rw [bindO_of c1]
  simp only [forceI_eq, wr_next (show i ≤ 1000000 by omega)]
  rw [bindO_of c2, bindP_of w1]
  simp only [asI_i, p_faddr, bindO_some]
  rw [bindO_of c3]
  simp only [asI_i, forceI_eq, p_faddr, bindO_some, last_cast (show 1 ≤ m by omega) (show m ≤ 1000000 by omega)]
  rw [bindP_of x1, bindO_of c4]
  simp only [asI_i, p_faddr, bindO_some]
  rw [bindO_of (show (fillA [(AVal.i IntKind.i64 0), (AVal.i IntKind.i64 0)] []).map AVal.agg = some (.agg (ints [0, 0])) from rfl), bindO_of cA, bindP_of y1, bindO_of c5, bindP_of u1, bindO_of c6]
  exact fin_keep k6 (bel_ints _ _)
/-- what is left is a garden, and its fences are the others -/
theorem tkz_get {m i t : Nat} (hl : z.length = 29) (hm : m ≤ 14) (hi : i < m) (ht : t < 1 + 2 * (m - 1)) (h0 : 0 < t) : (tkz z m i).getD t 0 = if t < 1 + 2 * i then z.getD t 0 else z.getD (t + 2) 0 := by
  unfold tkz
  rw [cpL_get (by rw [List.length_set, cpL_len]; omega), if_neg (by omega), set_get (by rw [cpL_len]; omega), if_neg (by omega), cpL_get (by omega)]
  by_cases h1 : t < 1 + 2 * i
  · rw [if_neg (by omega), if_pos h1]
  · rw [if_pos (by omega), if_neg h1]
    have : t - (1 + 2 * i) < (13 - i) * 2 := by omega
    have e : 3 + 2 * i + (t - (1 + 2 * i)) = t + 2 := by omega
    simp [List.getD, List.getElem?_take, this, List.getElem?_drop, e]
def skip (i j : Nat) : Nat := if j < i then j else j + 1
theorem tkz_pr {m i j : Nat} (g : Gdn z m) (hi : i < m) (hj : j < m - 1) : (tkz z m i).getD (1 + 2 * j) 0 = z.getD (1 + 2 * skip i j) 0 ∧ (tkz z m i).getD (2 + 2 * j) 0 = z.getD (2 + 2 * skip i j) 0 := by
  have hm := g.le
  rw [tkz_get g.len hm hi (by omega) (by omega), tkz_get g.len hm hi (by omega) (by omega)]
  unfold skip
  by_cases h : j < i
  · rw [if_pos h, if_pos (by omega), if_pos (by omega)]; exact ⟨rfl, rfl⟩
  · rw [if_neg h, if_neg (by omega), if_neg (by omega)]
    exact ⟨by congr 1, by congr 1⟩
theorem tkz_gdn {m i : Nat} (g : Gdn z m) (hi : i < m) : Gdn (tkz z m i) (m - 1) ∧ ∀ j, j < m - 1 → prA (tkz z m i) j = prA z (skip i j) ∧ prB (tkz z m i) j = prB z (skip i j) := by
  have hm := g.le
  have hl := g.len
  have hp : ∀ j, j < m - 1 → prA (tkz z m i) j = prA z (skip i j) ∧ prB (tkz z m i) j = prB z (skip i j) := fun j hj => by
    obtain ⟨e1, e2⟩ := tkz_pr g hi hj
    unfold prA prB
    rw [e1, e2]; exact ⟨rfl, rfl⟩
  have hs : ∀ j, j < m - 1 → skip i j < m := fun j hj => by unfold skip; split <;> omega
  refine ⟨⟨by unfold tkz; rw [cpL_len, List.length_set, cpL_len, hl], ?_, by omega, fun j hj => ?_, fun j hj => ?_⟩, hp⟩
  · unfold tkz
    rw [cpL_get (by rw [List.length_set, cpL_len]; omega), if_neg (by omega), set_get (by rw [cpL_len]; omega), if_pos rfl]
  · rw [(tkz_pr g hi hj).1, (hp j hj).1]; exact g.a _ (hs j hj)
  · rw [(tkz_pr g hi hj).2, (hp j hj).2]; exact g.b _ (hs j hj)
theorem bridge18 {m i : Nat} (g : Gdn z m) (hi : i < m) : callX F1 ro 18 [.agg (ints z), .i .i64 (i : Int)] h = some (.b (!eqI (at0 (lbP (tkz z m i) (m - 1)) (prA z i)) (at0 (lbP (tkz z m i) (m - 1)) (prB z i))), h, h.length, h.length) := by
  have hm := g.le
  have hl := g.len
  obtain ⟨L, hL⟩ : ∃ L, L = lbP (tkz z m i) (m - 1) := ⟨_, rfl⟩
  have hL8 : L.length = 8 := by rw [hL, lbP_len]
  obtain ⟨H1, e1⟩ : ∃ H1, H1 = h ++ [some (blkOf 49 (ints z))] := ⟨_, rfl⟩
  have l1 : H1.length = h.length + 1 := by rw [e1]; simp
  have k1 : Keep h H1 := by rw [e1]; exact Keep.app _
  have hg : HI H1 h.length z := by rw [e1]; exact Holds.new _ _ _
  have s1 : stepM ro ⟨h, h.length, h.length⟩ (.bx 49 29 (.c (.agg (ints z)))) = some (.p (some ⟨false, h.length, 0⟩), ⟨H1, h.length, h.length⟩) := by rw [e1]; exact bxI g.len
  have c1 := ld_all (ro := ro) (l := h.length) (p := h.length) (n := 29) hg g.len.symm
  have c2 := cp2 (l := h.length) (p := h.length) (taken29 (ro := ro) (h := H1) g hi) (by omega) (by omega)
  have c3 := cp2 (l := h.length) (p := h.length) (groups30 (ro := ro) (h := H1) (tkz_gdn g hi).1) (by omega) (by omega)
  rw [← hL] at c3 ⊢
  obtain ⟨H2, t1, t2, t3, k2, l2⟩ := al_st (ro := ro) (e := 56) (n := 8) (x := List.replicate 8 0) (y := L) k1 rfl hL8
  have kp2 := k1.trans k2
  have hg2 := hg.by k2
  obtain ⟨a1, a2⟩ := g.a i hi
  obtain ⟨b1, b2⟩ := g.b i hi
  have d1 := ldA_at (ro := ro) (k := 1 + 2 * i) (off := 0 + 1 + i * 2 + 0) hg2 (by omega) (by omega)
  have d2 := ldA_at (ro := ro) (k := 2 + 2 * i) (off := 0 + 1 + i * 2 + 1) hg2 (by omega) (by omega)
  rw [a1] at d1
  rw [b1] at d2
  have d3 := ldA_at (ro := ro) (k := prA z i) (off := 0 + prA z i * 1) t3 (by omega) (by omega)
  have d4 := ldA_at (ro := ro) (k := prB z i) (off := 0 + prB z i * 1) t3 (by omega) (by omega)
  have f1 : evP .e (.ixA 14 2 (.c (.p (some ⟨false, h.length, 0 + 1⟩))) (.c (.i .i64 (i : Int)))) = some (.p (some ⟨false, h.length, 0 + 1 + i * 2⟩)) := ixA_n (by omega)
  refine g18_ok (meansX_ok F1 ro) rfl ?_
  unfold g18
  rw [bindP_of s1, bindO_of c1, meansX_call, bindP_of c2, bindP_of c3]
  refine (bindP_of t1).trans ?_
  rw [bindP_of t2]
  simp only [p_faddr, bindO_some, f1, d1, d2, asI_i, ixA_n (b := H1.length) (o := 0) (es := 1) (len := 8) a2, ixA_n (b := H1.length) (o := 0) (es := 1) (len := 8) b2, d3, d4, forceB_eq, tupA]
  exact fin_keep kp2 rfl
end
end Go.Proofs.Ytdjffnfjbeiomaa.T

/- Joins and groups; a bridge. -/
open Go.Vm
set_option linter.unusedVariables false
namespace Go.Proofs.Ytdjffnfjbeiomaa.T
open Go

/-- labels of n posts by some of the fences -/
def lbR (n : Nat) (A B : Nat → Nat) (bit : Nat → Bool) : Nat → List Int
  | 0 => idL n
  | i + 1 => if bit i = true then mrg (lbR n A B bit i) (at0 (lbR n A B bit i) (B i)) (at0 (lbR n A B bit i) (A i)) else lbR n A B bit i
def prs (A B : Nat → Nat) (bit : Nat → Bool) : Nat → List (Nat × Nat)
  | 0 => []
  | i + 1 => if bit i = true then prs A B bit i ++ [(A i, B i)] else prs A B bit i
theorem mem_prs {A B : Nat → Nat} {bit : Nat → Bool} {x : Nat × Nat} : ∀ m, x ∈ prs A B bit m ↔ ∃ j, j < m ∧ bit j = true ∧ x = (A j, B j)
  | 0 => by simp [prs]
  | m + 1 => by
    unfold prs
    by_cases h : bit m = true
    · rw [if_pos h, List.mem_append, mem_prs m, List.mem_singleton]
      constructor
      · rintro (⟨j, h1, h2⟩ | rfl)
        · exact ⟨j, by omega, h2⟩
        · exact ⟨m, by omega, h, rfl⟩
      · rintro ⟨j, h1, h2, h3⟩
        by_cases e : j = m
        · subst e; exact .inr h3
        · exact .inl ⟨j, by omega, h2, h3⟩
    · rw [if_neg h, mem_prs m]
      constructor
      · rintro ⟨j, h1, h2⟩; exact ⟨j, by omega, h2⟩
      · rintro ⟨j, h1, h2, h3⟩
        by_cases e : j = m
        · subst e; exact absurd h2 h
        · exact ⟨j, by omega, h2, h3⟩
theorem lbR_len (n : Nat) (A B : Nat → Nat) (bit : Nat → Bool) : ∀ i, (lbR n A B bit i).length = n
  | 0 => idL_len n
  | i + 1 => by
    unfold lbR
    split
    · rw [mrg_len, lbR_len n A B bit i]
    · exact lbR_len n A B bit i
theorem tells_id (n : Nat) : Tells n (idL n) [] := by
  refine ⟨idL_len n, by simp, fun p q hp hq => ?_⟩
  rw [idL_get hp, idL_get hq]
  constructor
  · intro e
    have : p = q := by omega
    subst this; exact .rfl p
  · intro c
    rw [conn_nil c]
section
variable {n m : Nat} {A B : Nat → Nat} {bit : Nat → Bool}
theorem lbR_tells (hA : ∀ j, j < m → A j < n) (hB : ∀ j, j < m → B j < n) : ∀ i, i ≤ m → Tells n (lbR n A B bit i) (prs A B bit i)
  | 0, _ => tells_id n
  | i + 1, hi => by
    have t := lbR_tells hA hB i (by omega)
    unfold lbR prs
    by_cases h : bit i = true
    · rw [if_pos h, if_pos h]
      exact t.add (hA i hi) (hB i hi) (.inr ⟨rfl, rfl⟩)
    · rw [if_neg h, if_neg h]; exact t
theorem lbR_congr {bit' : Nat → Bool} : ∀ i, (∀ j, j < i → bit j = bit' j) → lbR n A B bit i = lbR n A B bit' i
  | 0, _ => rfl
  | i + 1, h => by
    unfold lbR
    rw [lbR_congr i fun j hj => h j (by omega), h i (by omega)]
theorem lbR_congrA {A' B' : Nat → Nat} : ∀ i, (∀ j, j < i → A j = A' j ∧ B j = B' j) → lbR n A B bit i = lbR n A' B' bit i
  | 0, _ => rfl
  | i + 1, h => by
    unfold lbR
    rw [lbR_congrA i fun j hj => h j (by omega), (h i (by omega)).1, (h i (by omega)).2]
theorem cls_id (n : Nat) : cls n (idL n) = n := by
  have key : ∀ k, k ≤ n → cntB (isFst (idL n)) k = k := fun k => by
    induction k with
    | zero => intro _; rfl
    | succ k ih =>
      intro hk
      have : isFst (idL n) k = true := isFst_iff.2 fun q hq e => by
        rw [idL_get (by omega), idL_get (by omega)] at e
        omega
      unfold cntB
      rw [ih (by omega), this]; rfl
  exact key n (Nat.le_refl _)
/-- what a round does to the number of groups -/
theorem cls_step {L : List Int} (hl : L.length = n) {a b : Nat} (ha : a < n) (hb : b < n) : cls n L = cls n (mrg L (at0 L b) (at0 L a)) + if at0 L a = at0 L b then 0 else 1 := by
  by_cases e : at0 L a = at0 L b
  · rw [if_pos e, e, mrg_same]; rfl
  · rw [if_neg e]
    exact cls_mrg hl hb ha fun h => e h.symm
theorem cls_le {L : List Int} : cls n L ≤ n := by
  have key : ∀ k, cntB (isFst L) k ≤ k := fun k => by
    induction k with
    | zero => exact Nat.le_refl _
    | succ k ih => unfold cntB; cases isFst L k <;> simp <;> omega
  exact key n
end
/-- labels are posts that stand for themselves -/
def Idem (L : List Int) : Prop := L.length = 8 ∧ ∀ p, p < 8 → ∃ x : Nat, x < 8 ∧ at0 L p = (x : Int) ∧ at0 L x = (x : Int)
theorem idem_id : Idem (idL 8) := ⟨idL_len 8, fun p hp => ⟨p, hp, idL_get hp, idL_get hp⟩⟩
theorem Idem.mrg {L : List Int} (h : Idem L) {a b : Nat} (ha : a < 8) (hb : b < 8) : Idem (mrg L (at0 L a) (at0 L b)) := by
  by_cases e : at0 L a = at0 L b
  · rw [e, mrg_same]; exact h
  · refine ⟨by rw [mrg_len, h.1], fun p hp => ?_⟩
    have hl := h.1
    obtain ⟨x, x1, x2, x3⟩ := h.2 p hp
    obtain ⟨y, y1, y2, y3⟩ := h.2 a ha
    rw [mrg_get (by omega)]
    by_cases e2 : at0 L p = at0 L b
    · rw [if_pos e2]
      refine ⟨y, y1, y2, ?_⟩
      rw [mrg_get (by omega), if_neg (by rw [y3, ← y2]; exact e), y3]
    · rw [if_neg e2]
      refine ⟨x, x1, x2, ?_⟩
      rw [mrg_get (by omega), if_neg (by rw [x3, ← x2]; exact e2), x3]
theorem jn_step {L : List Int} (h : Idem L) {a b : Nat} (ha : a < 8) (hb : b < 8) : cntB (jnB (mrg L (at0 L a) (at0 L b))) 8 = cntB (jnB L) 8 + if at0 L a = at0 L b then 0 else 1 := by
  by_cases e : at0 L a = at0 L b
  · rw [if_pos e, e, mrg_same]; rfl
  · rw [if_neg e]
    have hl := h.1
    obtain ⟨x, x1, x2, x3⟩ := h.2 b hb
    obtain ⟨y, y1, y2, y3⟩ := h.2 a ha
    have jT : ∀ {M : List Int} {p : Nat}, jnB M p = true ↔ at0 M p ≠ (p : Int) := fun {M p} => by
      unfold jnB
      rw [eqI_eq]; simp
    have jF : ∀ {M : List Int} {p : Nat}, jnB M p = false ↔ at0 M p = (p : Int) := fun {M p} => by
      unfold jnB
      rw [eqI_eq]; simp
    refine cntB_one (x := x) (jF.2 x3) (jT.2 ?_) 8 x1 fun i hi hne => ?_
    · rw [mrg_get (by omega), if_pos (by rw [x3, x2])]
      rw [← x2]; exact e
    · rw [Bool.eq_iff_iff, jT, jT, mrg_get (by omega)]
      by_cases e2 : at0 L i = at0 L b
      · rw [if_pos e2]
        have : at0 L i ≠ (i : Int) := by rw [e2, x2]; omega
        refine ⟨fun _ => ?_, fun _ => this⟩
        intro e3
        rw [y2] at e3
        have hyi : y = i := by omega
        subst hyi
        rw [y3, ← y2] at e2
        exact e e2
      · rw [if_neg e2]
section
variable {z : List Int} {n m : Nat}
abbrev allT : Nat → Bool := fun _ => true
theorem lbP_tells (g : Gdn z m) : ∀ i, i ≤ m → Tells 8 (lbP z i) (prs (prA z) (prB z) allT i)
  | 0, _ => tells_id 8
  | i + 1, hi => by
    have t := lbP_tells g i (by omega)
    unfold lbP prs
    rw [if_pos rfl]
    exact t.add (g.a i hi).2 (g.b i hi).2 (.inl ⟨rfl, rfl⟩)
theorem lbP_idem (g : Gdn z m) : ∀ i, i ≤ m → Idem (lbP z i)
  | 0, _ => idem_id
  | i + 1, hi => by
    unfold lbP
    exact (lbP_idem g i (by omega)).mrg (g.a i hi).2 (g.b i hi).2
theorem joins_cls (g : Gdn z m) (hn : n ≤ 8) (hA : ∀ j, j < m → prA z j < n) (hB : ∀ j, j < m → prB z j < n) : ∀ i, i ≤ m → cntB (jnB (lbP z i)) 8 + cls n (lbR n (prA z) (prB z) allT i) = n
  | 0, _ => by
    show cntB (jnB (idL 8)) 8 + cls n (idL n) = n
    rw [cls_id, show cntB (jnB (idL 8)) 8 = 0 from rfl]; omega
  | i + 1, hi => by
    have ih := joins_cls g hn hA hB i (by omega)
    have t := lbR_tells (bit := allT) hA hB i (by omega)
    have t2 := lbP_tells g i (by omega)
    have a1 := hA i hi
    have b1 := hB i hi
    have e : at0 (lbP z i) (prA z i) = at0 (lbP z i) (prB z i) ↔ at0 (lbR n (prA z) (prB z) allT i) (prA z i) = at0 (lbR n (prA z) (prB z) allT i) (prB z i) := by
      rw [t.2.2 _ _ a1 b1, t2.2.2 _ _ (by omega) (by omega)]
    have s1 := jn_step (lbP_idem g i (by omega)) (g.a i hi).2 (g.b i hi).2
    have s2 := cls_step (lbR_len n (prA z) (prB z) allT i) a1 b1
    have u1 : lbP z (i + 1) = mrg (lbP z i) (at0 (lbP z i) (prA z i)) (at0 (lbP z i) (prB z i)) := rfl
    have u2 : lbR n (prA z) (prB z) allT (i + 1) = mrg (lbR n (prA z) (prB z) allT i) (at0 (lbR n (prA z) (prB z) allT i) (prB z i)) (at0 (lbR n (prA z) (prB z) allT i) (prA z i)) := by
      show (if allT i = true then _ else _) = _
      rw [if_pos rfl]
    rw [u1, s1, u2]
    by_cases h : at0 (lbP z i) (prA z i) = at0 (lbP z i) (prB z i)
    · rw [if_pos h]; rw [if_pos (e.1 h)] at s2; omega
    · rw [if_neg h]; rw [if_neg (fun hh => h (e.2 hh))] at s2; omega
/-- a bridge, exactly if there are more groups without it -/
theorem bridge_cls {i : Nat} (g : Gdn z m) (hn : n ≤ 8) (hA : ∀ j, j < m → prA z j < n) (hB : ∀ j, j < m → prB z j < n) (hi : i < m) :
    (!eqI (at0 (lbP (tkz z m i) (m - 1)) (prA z i)) (at0 (lbP (tkz z m i) (m - 1)) (prB z i))) = decide (cls n (lbR n (prA z) (prB z) allT m) < cls n (lbR n (prA z) (prB z) (fun j => !Nat.beq j i) m)) := by
  obtain ⟨g', hp⟩ := tkz_gdn g hi
  have t1 := lbR_tells (bit := allT) hA hB m (Nat.le_refl _)
  have t2 := lbR_tells (bit := fun j => !Nat.beq j i) hA hB m (Nat.le_refl _)
  have t3 := lbP_tells g' (m - 1) (Nat.le_refl _)
  have a1 := hA i hi
  have b1 := hB i hi
  have nb : ∀ j, (!Nat.beq j i) = true ↔ j ≠ i := fun j => by
    rw [Bool.not_eq_true', ← Bool.not_eq_true, Nat.beq_eq]
  -- the same pairs without it, in both
  have hmem : ∀ x, x ∈ prs (prA (tkz z m i)) (prB (tkz z m i)) allT (m - 1) ↔ x ∈ prs (prA z) (prB z) (fun j => !Nat.beq j i) m := fun x => by
    rw [mem_prs, mem_prs]
    constructor
    · rintro ⟨j, h1, -, rfl⟩
      refine ⟨skip i j, by unfold skip; split <;> omega, (nb _).2 (by unfold skip; split <;> omega), ?_⟩
      rw [(hp j h1).1, (hp j h1).2]
    · rintro ⟨j, h1, h2, rfl⟩
      have h2' := (nb j).1 h2
      by_cases hj : j < i
      · refine ⟨j, by omega, rfl, ?_⟩
        rw [(hp j (by omega)).1, (hp j (by omega)).2]
        unfold skip
        rw [if_pos hj]
      · refine ⟨j - 1, by omega, rfl, ?_⟩
        rw [(hp (j - 1) (by omega)).1, (hp (j - 1) (by omega)).2]
        unfold skip
        rw [if_neg (by omega), show j - 1 + 1 = j by omega]
  have e1 : at0 (lbP (tkz z m i) (m - 1)) (prA z i) = at0 (lbP (tkz z m i) (m - 1)) (prB z i) ↔ at0 (lbR n (prA z) (prB z) (fun j => !Nat.beq j i) m) (prA z i) = at0 (lbR n (prA z) (prB z) (fun j => !Nat.beq j i) m) (prB z i) := by
    rw [t2.2.2 _ _ a1 b1, t3.2.2 _ _ (by omega) (by omega)]
    exact ⟨Conn.mono fun x hx => (hmem x).1 hx, Conn.mono fun x hx => (hmem x).2 hx⟩
  have t4 := t2.add a1 b1 (k := at0 (lbR n (prA z) (prB z) (fun j => !Nat.beq j i) m) (prB z i)) (g := at0 (lbR n (prA z) (prB z) (fun j => !Nat.beq j i) m) (prA z i)) (.inr ⟨rfl, rfl⟩)
  have e2 := t4.cls t1 fun x => by
    rw [List.mem_append, mem_prs, mem_prs, List.mem_singleton]
    constructor
    · rintro (⟨j, h1, -, h3⟩ | rfl)
      · exact ⟨j, h1, rfl, h3⟩
      · exact ⟨i, hi, rfl, rfl⟩
    · rintro ⟨j, h1, -, h3⟩
      by_cases hj : j = i
      · subst hj; exact .inr h3
      · exact .inl ⟨j, h1, (nb j).2 hj, h3⟩
  have e3 := cls_step (lbR_len n (prA z) (prB z) (fun j => !Nat.beq j i) m) a1 b1
  rw [e2] at e3
  rw [eqI_eq, Bool.eq_iff_iff]
  simp only [Bool.not_eq_true', beq_eq_false_iff_ne, decide_eq_true_eq]
  by_cases h : at0 (lbP (tkz z m i) (m - 1)) (prA z i) = at0 (lbP (tkz z m i) (m - 1)) (prB z i)
  · rw [if_pos (e1.1 h)] at e3
    exact ⟨fun hh => absurd h hh, fun hh => by omega⟩
  · rw [if_neg (fun hh => h (e1.2 hh))] at e3
    exact ⟨fun _ => by omega, fun _ => h⟩
end
end Go.Proofs.Ytdjffnfjbeiomaa.T

/- Lists of fences; whether they are a garden. -/
open Go.Vm
set_option linter.unusedVariables false
namespace Go.Proofs.Ytdjffnfjbeiomaa.T
open Go

section
variable {ro : List ABlk} {h hp : Heap} {v : AVal} {es : Nat} {X : List (List AVal)}
theorem IsL.ext (x : Heap) (a : IsL ro h v es X) : IsL ro (h ++ x) v es X := by
  obtain ⟨h0, a | a | ⟨q, cap, blk, e, hb, h1, h2⟩⟩ := a
  · exact ⟨h0, .inl a⟩
  · exact ⟨h0, .inr (.inl a)⟩
  · exact ⟨h0, .inr (.inr ⟨q, cap, blk, e, rdB_ext x hb, h1, h2⟩)⟩
theorem IsL.by (a : IsL ro h v es X) (k : Keep h hp) : IsL ro hp v es X := by
  rw [take_eq k.1 k.2]; exact a.ext _
theorem IsL.bel (a : IsL ro h v es X) : v.bel h.length = true := by
  obtain ⟨h0, ⟨rfl, rfl⟩ | ⟨rfl, rfl⟩ | ⟨q, cap, blk, rfl, hb, h1, h2⟩⟩ := a
  · rfl
  · rfl
  · simpa [AVal.bel] using rdB_lt hb
theorem len_L (a : IsL ro h v es X) : evP .e (.len false (.c v)) = some (.i .i64 X.length) := by
  obtain ⟨h0, ⟨rfl, rfl⟩ | ⟨rfl, rfl⟩ | ⟨q, cap, blk, rfl, -⟩⟩ := a
  · rfl
  · rfl
  · simp [evP, ev_len, opd, mkI_eq]
theorem at_L (a : IsL ro h v es X) {i : Nat} (hi : i < X.length) : ∃ q : Vm.Loc, evP .e (.ixS es (.c v) (.c (.i .i64 (i : Int)))) = some (.p (some q)) ∧ ∀ {hp : Heap}, Keep h hp →
    (∀ {lw lp : Nat}, ldM ro ⟨hp, lw, lp⟩ false es (.p (some q)) = some (.agg (X.getD i []))) ∧ ldA ro hp false es (.p (some q)) = some (.agg (X.getD i [])) ∧
    ∀ k, k < es → (∀ {lw lp : Nat}, ldM ro ⟨hp, lw, lp⟩ true 1 (.p (some ⟨q.ro, q.b, q.off + k⟩)) = some ((X.getD i []).getD k und)) ∧ ldA ro hp true 1 (.p (some ⟨q.ro, q.b, q.off + k⟩)) = some ((X.getD i []).getD k und) := by
  obtain ⟨h0, ⟨rfl, rfl⟩ | ⟨rfl, rfl⟩ | ⟨q, cap, blk, rfl, hb, hn, hc⟩⟩ := a
  · simp at hi
  · simp at hi
  · have hblt : Nat.blt i X.length = true := by rw [Nat.blt_eq]; exact hi
    have e : ((i : Int)) = Int.ofNat i := rfl
    have hl : (X.getD i []).length = es := h0 _ (by simp [List.getD, hi])
    have hle : i * es + es ≤ X.length * es := by
      have : (i + 1) * es ≤ X.length * es := Nat.mul_le_mul_right es hi
      rwa [Nat.add_mul, Nat.one_mul] at this
    refine ⟨⟨q.ro, q.b, q.off + i * es⟩, ?_, fun {hp} kp => ?_⟩
    · simp only [evP, ev_ixS, opd, e, atI, hblt, cond_true]
    · have hb1 : rdB ro hp q = some blk := by rw [take_eq kp.1 kp.2]; exact rdB_ext _ hb
      have hb' : rdB ro hp ⟨q.ro, q.b, q.off + i * es⟩ = some blk := hb1
      have hc4 : Nat.ble (q.off + i * es + es) blk.n = true := by rw [Nat.ble_eq]; omega
      have hrow : blk.c.row (q.off + i * es) es = X.getD i [] := by
        have := row_list (t := blk.c) (X.getD i []) (q.off + i * es) fun j hj => hc i hi j (by omega)
        rwa [hl] at this
      have hrd : rd ro hp false es ⟨q.ro, q.b, q.off + i * es⟩ = some (.agg (X.getD i [])) := by
        simp only [rd, hb', cond_false, hc4, cond_true, hrow]
      have hlt := rdB_lt hb1
      refine ⟨fun {lw lp} => hrd, by simp only [ldA, hlt, cond_true, hrd], fun k hk => ?_⟩
      have h1 : rd ro hp true 1 ⟨q.ro, q.b, q.off + i * es + k⟩ = some ((X.getD i []).getD k und) := by
        have hb2 : rdB ro hp ⟨q.ro, q.b, q.off + i * es + k⟩ = some blk := hb1
        have : Nat.blt (q.off + i * es + k) blk.n = true := by rw [Nat.blt_eq]; omega
        simp only [rd, hb2, cond_true, this, hc i hi k hk]
      exact ⟨fun {lw lp} => h1, by simp only [ldA, hlt, cond_true, h1]⟩
end
theorem flat_row {t : Tr} {off es : Nat} : ∀ {X : List (List AVal)}, (∀ x ∈ X, x.length = es) → (∀ j, j < X.length → ∀ i, i < es → t.get (off + j * es + i) = (X.getD j []).getD i und) → t.row off (X.length * es) = X.flatten := by
  intro X h h2
  have hl := flat_len h
  rw [← hl]
  refine row_list X.flatten off fun j hj => ?_
  rw [hl] at hj
  have hes : 0 < es := by
    rcases Nat.eq_zero_or_pos es with h | h
    · subst h; simp at hj
    · exact h
  have e : j = j / es * es + j % es := (Nat.div_add_mod' j es).symm
  have h3 : j / es < X.length := Nat.div_lt_of_lt_mul (by rw [Nat.mul_comm]; exact hj)
  have h4 : j % es < es := Nat.mod_lt _ hes
  have h5 := h2 _ h3 _ h4
  rw [show off + j / es * es + j % es = off + j by omega] at h5
  rw [h5]
  have := flat_get h h3 h4
  rw [← e] at this
  exact this.symm
abbrev Fe.z : Fe := ⟨0, 0⟩
abbrev IsF (ro : List ABlk) (h : Heap) (v : AVal) (fs : List Fe) : Prop := IsL ro h v 2 (fs.map Fe.vs)
theorem getD_fe (l : List Fe) {i : Nat} (hi : i < l.length) : (l.map Fe.vs).getD i [] = (l.getD i Fe.z).vs := by simp [List.getD, hi]
/-- whether a fence joins posts that are there -/
def okF (n : Int) (c : Fe) : Bool := !(ltI c.a 0 || !ltI c.a n || ltI c.b 0 || !ltI c.b n)
def errF (n : Int) (fs : List Fe) : Int := if n < 1 ∨ 8 < n then 2 else if 14 < fs.length then 3 else if ∀ i, i < fs.length → okF n (fs.getD i Fe.z) = true then 0 else 2
def flatF (fs : List Fe) : List Int := (fs.map fun c => [c.a, c.b]).flatten
theorem flatF_vs : ∀ fs : List Fe, (fs.map Fe.vs).flatten = ints (flatF fs)
  | [] => rfl
  | c :: fs => by
    have := flatF_vs fs
    simp only [flatF, List.map_cons, List.flatten_cons, ints, List.map_append] at this ⊢
    rw [this]; rfl
theorem flatF_len : ∀ fs : List Fe, (flatF fs).length = fs.length * 2
  | [] => rfl
  | c :: fs => by
    have := flatF_len fs
    simp only [flatF, List.map_cons, List.flatten_cons, List.length_append, List.length_cons, List.length_nil] at this ⊢
    omega
theorem flatF_get : ∀ (fs : List Fe) (j : Nat), j < fs.length → (flatF fs).getD (2 * j) 0 = (fs.getD j Fe.z).a ∧ (flatF fs).getD (2 * j + 1) 0 = (fs.getD j Fe.z).b
  | [], j, h => by simp at h
  | c :: fs, 0, _ => ⟨rfl, rfl⟩
  | c :: fs, j + 1, h => by
    obtain ⟨e1, e2⟩ := flatF_get fs j (by simpa using h)
    have e : flatF (c :: fs) = c.a :: c.b :: flatF fs := rfl
    rw [e]
    exact ⟨by rw [show 2 * (j + 1) = 2 * j + 1 + 1 by omega]; simpa using e1, by rw [show 2 * (j + 1) + 1 = 2 * j + 1 + 1 + 1 by omega]; simpa using e2⟩
def gdn (fs : List Fe) : List Int := cpL ((fs.length : Int) :: List.replicate 28 0) (flatF fs) 1 (fs.length * 2)
theorem gdn_len (fs : List Fe) : (gdn fs).length = 29 := by unfold gdn; rw [cpL_len]; rfl
theorem okF_iff {n : Int} {c : Fe} : okF n c = true ↔ 0 ≤ c.a ∧ c.a < n ∧ 0 ≤ c.b ∧ c.b < n := by
  unfold okF
  simp only [ltI_eq, Bool.not_eq_true', Bool.or_eq_false_iff, decide_eq_false_iff_not, Bool.not_eq_false', decide_eq_true_eq, Int.not_lt]
  omega
theorem errF_zero {n : Int} {fs : List Fe} (h : errF n fs = 0) : 1 ≤ n ∧ n ≤ 8 ∧ fs.length ≤ 14 ∧ ∀ i, i < fs.length → okF n (fs.getD i Fe.z) = true := by
  unfold errF at h
  by_cases h1 : n < 1 ∨ 8 < n
  · rw [if_pos h1] at h; cases h
  · rw [if_neg h1] at h
    by_cases h2 : 14 < fs.length
    · rw [if_pos h2] at h; cases h
    · rw [if_neg h2] at h
      by_cases h3 : ∀ i, i < fs.length → okF n (fs.getD i Fe.z) = true
      · exact ⟨by omega, by omega, by omega, h3⟩
      · rw [if_neg h3] at h; cases h
def pA (fs : List Fe) (j : Nat) : Nat := (fs.getD j Fe.z).a.toNat
def pB (fs : List Fe) (j : Nat) : Nat := (fs.getD j Fe.z).b.toNat
theorem gdn_ok {n : Int} {fs : List Fe} (h : errF n fs = 0) : Gdn (gdn fs) fs.length ∧ ∀ j, j < fs.length → prA (gdn fs) j = pA fs j ∧ prB (gdn fs) j = pB fs j ∧ pA fs j < n.toNat ∧ pB fs j < n.toNat := by
  obtain ⟨n1, n8, hl, hok⟩ := errF_zero h
  have ha : ∀ j, j < fs.length → (gdn fs).getD (1 + 2 * j) 0 = (fs.getD j Fe.z).a ∧ (gdn fs).getD (2 + 2 * j) 0 = (fs.getD j Fe.z).b := fun j hj => by
    obtain ⟨e1, e2⟩ := flatF_get fs j hj
    unfold gdn
    have hlen : ((fs.length : Int) :: List.replicate 28 0).length = 29 := rfl
    rw [cpL_get (by rw [hlen]; omega), if_pos (by omega), cpL_get (by rw [hlen]; omega), if_pos (by omega), show 1 + 2 * j - 1 = 2 * j by omega, show 2 + 2 * j - 1 = 2 * j + 1 by omega]
    exact ⟨e1, e2⟩
  have hp : ∀ j, j < fs.length → prA (gdn fs) j = pA fs j ∧ prB (gdn fs) j = pB fs j := fun j hj => by
    unfold prA prB pA pB
    rw [(ha j hj).1, (ha j hj).2]; exact ⟨rfl, rfl⟩
  refine ⟨⟨gdn_len fs, ?_, hl, fun j hj => ?_, fun j hj => ?_⟩, fun j hj => ?_⟩
  · unfold gdn
    rw [cpL_get (by simp), if_neg (by omega)]; rfl
  · have := okF_iff.1 (hok j hj)
    rw [(hp j hj).1, (ha j hj).1]; unfold pA; omega
  · have := okF_iff.1 (hok j hj)
    rw [(hp j hj).2, (ha j hj).2]; unfold pB; omega
  · have := okF_iff.1 (hok j hj)
    refine ⟨(hp j hj).1, (hp j hj).2, ?_⟩
    unfold pA pB; omega
section
variable {ro : List ABlk} {h : Heap} {v : AVal} {fs : List Fe} {n : Int}
theorem len_F (a : IsF ro h v fs) : evP .e (.len false (.c v)) = some (.i .i64 (fs.length : Int)) := by
  have := len_L a; rwa [List.length_map] at this
theorem at_F (a : IsF ro h v fs) {i : Nat} (hi : i < fs.length) : ∃ q : Vm.Loc, evP .e (.ixS 2 (.c v) (.c (.i .i64 (i : Int)))) = some (.p (some q)) ∧ ∀ {hp : Heap}, Keep h hp →
    (∀ {lw lp : Nat}, ldM ro ⟨hp, lw, lp⟩ false 2 (.p (some q)) = some (.agg [.i .i64 (fs.getD i Fe.z).a, .i .i64 (fs.getD i Fe.z).b])) ∧
    (∀ {lw lp : Nat}, ldM ro ⟨hp, lw, lp⟩ true 1 (.p (some ⟨q.ro, q.b, q.off + 0⟩)) = some (.i .i64 (fs.getD i Fe.z).a)) ∧ (∀ {lw lp : Nat}, ldM ro ⟨hp, lw, lp⟩ true 1 (.p (some ⟨q.ro, q.b, q.off + 1⟩)) = some (.i .i64 (fs.getD i Fe.z).b)) ∧
    ldA ro hp true 1 (.p (some ⟨q.ro, q.b, q.off + 0⟩)) = some (.i .i64 (fs.getD i Fe.z).a) ∧ ldA ro hp true 1 (.p (some ⟨q.ro, q.b, q.off + 1⟩)) = some (.i .i64 (fs.getD i Fe.z).b) := by
  obtain ⟨q, h1, h2⟩ := at_L a (i := i) (by simpa using hi)
  refine ⟨q, h1, fun {hp} kp => ?_⟩
  obtain ⟨h3, -, h5⟩ := h2 kp
  obtain ⟨h6, h8⟩ := h5 0 (by omega)
  obtain ⟨h7, h9⟩ := h5 1 (by omega)
  rw [getD_fe fs hi] at h3 h6 h7 h8 h9
  exact ⟨h3, h6, h7, h8, h9⟩
theorem garden19 (a : IsF ro h v fs) : callX F1 ro 19 [.i .i64 n, v] h = some (.i .i64 (errF n fs), h, h.length, h.length) := by
  refine g19_ok (meansX_ok F1 ro) rfl ?_
  unfold g19 errF
  simp only [forceB_eq, ltI_eq, len_F a, bindO_some, asI_i, meansX_loop, tupA]
  by_cases h1 : n < 1
  · simp only [dT h1, cond_true, bindO_some]
    rw [if_pos (.inl h1)]
    exact fin_pure rfl
  by_cases h2 : 8 < n
  · simp only [dF h1, dT h2, cond_true, cond_false, bindO_some]
    rw [if_pos (.inr h2)]
    exact fin_pure rfl
  have h12 : ¬ (n < 1 ∨ 8 < n) := by omega
  simp only [dF h1, dF h2, cond_false, bindO_some]
  rw [if_neg h12]
  by_cases h3 : 14 < fs.length
  · rw [if_pos h3, dT (by omega), cond_true]
    exact fin_pure rfl
  rw [if_neg h3, dF (by omega), cond_false]
  have step : ∀ i, i < fs.length → g19_b1 (meansX F1 ro) ro n v ⟨h, h.length, h.length⟩ ((i : Nat) : Int) = some (cond (okF n (fs.getD i Fe.z)) (.inl ((i + 1 : Nat) : Int)) (.inr (.inr 2))) := fun i hi => by
    obtain ⟨⟨qr, qb, qo⟩, q1, q2⟩ := at_F a hi
    obtain ⟨-, q3, q4, -⟩ := q2 (Keep.refl h)
    simp only [g19_b1, len_F a, bindO_some, asI_i, forceB_eq, ltI_eq, lt_yes hi, cond_true, q1, p_faddr, q3, q4, forceI_eq, wr_next (show i ≤ 1000000 by omega)]
    unfold okF
    simp only [ltI_eq]
    cases decide ((fs.getD i Fe.z).a < 0) <;> cases decide ((fs.getD i Fe.z).a < n) <;> cases decide ((fs.getD i Fe.z).b < 0) <;> cases decide ((fs.getD i Fe.z).b < n) <;> rfl
  have hl := loop_if (b := fun s => g19_b1 (meansX F1 ro) ro n v ⟨h, h.length, h.length⟩ s) (fun i => ((i : Nat) : Int)) fs.length (fun i => okF n (fs.getD i Fe.z) = true) (.inl ()) (.inr 2) ?_ (fun i hi hp => by
      show g19_b1 _ _ _ _ _ _ = _
      rw [step i hi, hp]; rfl) (fun i hi hp => by
      have hp' : okF n (fs.getD i Fe.z) = false := by simpa using hp
      show g19_b1 _ _ _ _ _ _ = _
      rw [step i hi, hp']; rfl)
  · have e0 : ((0 : Nat) : Int) = 0 := rfl
    simp only [e0] at hl
    rw [bindO_of hl]
    by_cases hall : ∀ i, i < fs.length → okF n (fs.getD i Fe.z) = true
    · rw [if_pos hall, if_pos hall]
      exact fin_pure rfl
    · rw [if_neg hall, if_neg hall]
      exact fin_pure rfl
  · show g19_b1 _ _ _ _ _ _ = _
    simp only [g19_b1, len_F a, bindO_some, asI_i, forceB_eq, ltI_eq, lt_no, cond_false]
end
end Go.Proofs.Ytdjffnfjbeiomaa.T

/- The garden that is read. -/
open Go.Vm
set_option linter.unusedVariables false
namespace Go.Proofs.Ytdjffnfjbeiomaa.T
open Go

section
variable {ro : List ABlk} {h : Heap} {v : AVal} {fs : List Fe} {n : Int}
theorem bel_tup2 (k : Nat) (z : List Int) (e : Int) : (AVal.tup [.agg (ints z), .i .i64 e]).bel k = true := by
  have := bel_ints k z
  simp only [AVal.bel, bels] at this ⊢
  rw [this]; rfl
theorem read_loop {v4 : AVal} {H1 : Heap} {b4 : Nat} (a : IsF ro h v fs) (hv4 : v4 = .p (some ⟨false, b4, 0⟩)) (hb : h.length ≤ b4) (k1 : Keep h H1) (hz : HI H1 b4 (List.replicate 29 0)) (hl : fs.length ≤ 14) :
    ∃ r, loopX (fun s : Int × Mm => g17_b1 (meansX F1 ro) ro n v v4 (fs.length : Int) s.1 s.2) (0, ⟨H1, h.length, h.length⟩) = some r ∧
      ((∃ H, r = .inl ⟨H, h.length, h.length⟩ ∧ Keep h H ∧ HI H b4 (List.replicate 29 0) ∧ ∀ i, i < fs.length → okF n (fs.getD i Fe.z) = true) ∨
       (∃ H, r = .inr (2, ⟨H, h.length, h.length⟩) ∧ Keep h H ∧ HI H b4 (List.replicate 29 0) ∧ ¬ ∀ i, i < fs.length → okF n (fs.getD i Fe.z) = true)) := by
  subst hv4
  refine loop_exit (b := fun s : Int × Mm => g17_b1 (meansX F1 ro) ro n v (.p (some ⟨false, b4, 0⟩)) (fs.length : Int) s.1 s.2) fs.length
    (fun i s => ∃ H, s = ((i : Int), (⟨H, h.length, h.length⟩ : Mm)) ∧ Keep h H ∧ HI H b4 (List.replicate 29 0) ∧ ∀ j, j < i → okF n (fs.getD j Fe.z) = true)
    (fun r => (∃ H, r = .inl ⟨H, h.length, h.length⟩ ∧ Keep h H ∧ HI H b4 (List.replicate 29 0) ∧ ∀ i, i < fs.length → okF n (fs.getD i Fe.z) = true) ∨
       (∃ H, r = .inr (2, ⟨H, h.length, h.length⟩) ∧ Keep h H ∧ HI H b4 (List.replicate 29 0) ∧ ¬ ∀ i, i < fs.length → okF n (fs.getD i Fe.z) = true)) ?_ ?_ fs.length 0 (0, ⟨H1, h.length, h.length⟩) (by omega) ⟨H1, rfl, k1, hz, fun j hj => by omega⟩
  · rintro i s hi ⟨H, rfl, kp, q1, hall⟩
    obtain ⟨⟨qr, qb, qo⟩, e1, e2⟩ := at_F a hi
    obtain ⟨e3, -⟩ := e2 kp
    obtain ⟨H5, t1, t2, t3, k5, l5⟩ := al_st (ro := ro) (h := h) (e := 45) (n := 2) (x := [0, 0]) (y := [(fs.getD i Fe.z).a, (fs.getD i Fe.z).b]) kp rfl rfl
    have kp5 := kp.trans k5
    have c0 := ldM_at (ro := ro) (l := h.length) (p := h.length) (k := 0) (off := 0 + 0) t3 (by simp) rfl
    have c1 := ldM_at (ro := ro) (l := h.length) (p := h.length) (k := 1) (off := 0 + 1) t3 (by simp) rfl
    have c0' : ldM ro ⟨H5, h.length, h.length⟩ true 1 (.p (some ⟨false, H.length, 0 + 0⟩)) = some (.i .i64 (fs.getD i Fe.z).a) := c0
    have c1' : ldM ro ⟨H5, h.length, h.length⟩ true 1 (.p (some ⟨false, H.length, 0 + 1⟩)) = some (.i .i64 (fs.getD i Fe.z).b) := c1
    have t1' : stepM ro ⟨H, h.length, h.length⟩ (.al 45 [(AVal.i IntKind.i64 0), (AVal.i IntKind.i64 0)]) = some (.p (some ⟨false, H.length, 0⟩), ⟨H ++ [some (blkOf 45 (ints [0, 0]))], h.length, h.length⟩) := t1
    have t2' : stepM ro ⟨H ++ [some (blkOf 45 (ints [0, 0]))], h.length, h.length⟩ (.st 2 (.c (.p (some ⟨false, H.length, 0⟩))) (.c (.agg [.i .i64 (fs.getD i Fe.z).a, .i .i64 (fs.getD i Fe.z).b]))) = some (und, ⟨H5, h.length, h.length⟩) := t2
    obtain ⟨H6, w1, w2, w3, w4, k6⟩ := stG (ro := ro) (w := List.replicate 29 0) (n := 29) (j := 0) (off := 0) (q1.by k5) (by simp) (by simp) rfl hb kp5
    have hzz : cpL (List.replicate 29 0) (List.replicate 29 0) 0 29 = List.replicate 29 0 := by decide
    rw [hzz] at w2
    have w1' : stepM ro ⟨H5, h.length, h.length⟩ (.st 29 (.c (.p (some ⟨false, b4, 0⟩))) (.c (.agg (ints (List.replicate 29 0))))) = some (und, ⟨H6, h.length, h.length⟩) := w1
    have hfill : (fillA (ints (List.replicate 29 0)) []).map AVal.agg = some (.agg (ints (List.replicate 29 0))) := rfl
    have main : g17_b1 (meansX F1 ro) ro n v (.p (some ⟨false, b4, 0⟩)) (fs.length : Int) (i : Int) ⟨H, h.length, h.length⟩ = cond (okF n (fs.getD i Fe.z)) (some (.inl (((i + 1 : Nat) : Int), ⟨H5, h.length, h.length⟩))) (some (.inr (.inr (2, ⟨H6, h.length, h.length⟩)))) := by
      unfold g17_b1
      simp only [forceB_eq, ltI_eq, lt_yes hi, cond_true]
      rw [bindO_of e1, bindO_of e3, bindP_of t1', bindP_of t2']
      simp only [p_faddr, bindO_some, c0', c1', asI_i, forceI_eq, wr_next (show i ≤ 1000000 by omega)]
      have tail : (bindO ((fillA (ints (List.replicate 29 0)) []).map AVal.agg) fun v46 => bindP (stepM ro ⟨H5, h.length, h.length⟩ (.st 29 (.c (.p (some ⟨false, b4, 0⟩))) (.c v46))) fun vn_3 m_7 => (some (.inr (.inr (2, m_7))) : Option ((Int × Mm) ⊕ (Mm ⊕ (Int × Mm))))) = some (.inr (.inr (2, ⟨H6, h.length, h.length⟩))) := by
        rw [bindO_of hfill, bindP_of w1']
      unfold okF
      simp only [ltI_eq]
      cases decide ((fs.getD i Fe.z).a < 0) <;> cases decide ((fs.getD i Fe.z).a < n) <;> cases decide ((fs.getD i Fe.z).b < 0) <;> cases decide ((fs.getD i Fe.z).b < n) <;> first | rfl | exact tail
    cases hok : okF n (fs.getD i Fe.z)
    · refine .inr ⟨_, by show g17_b1 _ _ _ _ _ _ _ _ = _; rw [main, hok]; rfl, .inr ⟨H6, rfl, k6, w2, fun hh => ?_⟩⟩
      rw [hh i hi] at hok; cases hok
    · refine .inl ⟨_, by show g17_b1 _ _ _ _ _ _ _ _ = _; rw [main, hok]; rfl, H5, rfl, kp5, q1.by k5, fun j hj => ?_⟩
      by_cases e : j = i
      · subst e; exact hok
      · exact hall j (by omega)
  · rintro s ⟨H, rfl, kp, q1, hall⟩
    refine ⟨.inl ⟨H, h.length, h.length⟩, ?_, .inl ⟨H, rfl, kp, q1, hall⟩⟩
    show g17_b1 _ _ _ _ _ _ _ _ = _
    unfold g17_b1
    simp only [forceB_eq, ltI_eq, lt_no, cond_false]
/-- the fences copied into a garden -/
theorem cp_fences {H : Heap} {b8 : Nat} {z : List Int} (a : IsF ro h v fs) (k : Keep h H) (hz : HI H b8 z) (hzl : z.length = 29) (hl : fs.length ≤ 14) (hb : h.length ≤ b8) :
    ∃ H' x, stepM ro ⟨H, h.length, h.length⟩ (.cpy 2 (.c (.sl ⟨false, b8, 0 + 1 + 0 * 2⟩ (14 - 0) (.known (14 - 0)))) (.c v)) = some (.i .i64 x, ⟨H', h.length, h.length⟩) ∧ HI H' b8 (cpL z (flatF fs) 1 (fs.length * 2)) ∧ (∀ t, t ≠ b8 → H'[t]? = H[t]?) ∧ Keep h H' := by
  have nil : fs = [] → cpL z (flatF fs) 1 (fs.length * 2) = z := fun e => by
    subst e
    exact ext_getD (cpL_len _ _ _ _) fun t ht => by
      rw [cpL_len] at ht
      rw [cpL_get ht, if_neg (by simp only [List.length_nil]; omega)]
  obtain ⟨h0, ⟨rfl, e⟩ | ⟨rfl, e⟩ | ⟨q, cap, blk, rfl, hbk, hbn, hg⟩⟩ := a
  · have e' : fs = [] := by simpa using e
    exact ⟨H, 0, rfl, by rw [nil e']; exact hz, fun _ _ => rfl, k⟩
  · have e' : fs = [] := by simpa using e
    exact ⟨H, 0, rfl, by rw [nil e']; exact hz, fun _ _ => rfl, k⟩
  · rw [List.length_map] at hbn hg ⊢
    have hrow : blk.c.row q.off (fs.length * 2) = ints (flatF fs) := by
      have := flat_row (t := blk.c) (off := q.off) h0 fun j hj i hi => hg j (by simpa using hj) i hi
      rw [List.length_map, flatF_vs] at this
      exact this
    have hrd : rdB ro H q = some blk := by rw [take_eq k.1 k.2]; exact rdB_ext _ hbk
    obtain ⟨H', w1, w2, w3, w4, w5⟩ := cpG (ro := ro) (h := h) (j := 1) (k := fs.length) (n1 := 14) (n2 := fs.length) (q2 := q) (c1 := .known 14) (c2 := cap) hz hrd hbn hrow (flatF_len fs) (by omega) (by omega) hb k
    exact ⟨H', _, w1, w2, w4, w5⟩
theorem read17 (a : IsF ro h v fs) : ∃ z, z.length = 29 ∧ (errF n fs = 0 → z = gdn fs) ∧ callX F1 ro 17 [.i .i64 n, v] h = some (.tup [.agg (ints z), .i .i64 (errF n fs)], h, h.length, h.length) := by
  obtain ⟨H1, e1⟩ : ∃ H1, H1 = h ++ [some (blkOf 49 (ints (List.replicate 29 0)))] := ⟨_, rfl⟩
  have l1 : H1.length = h.length + 1 := by rw [e1]; simp
  have k1 : Keep h H1 := by rw [e1]; exact Keep.app _
  have hz : HI H1 h.length (List.replicate 29 0) := by rw [e1]; exact Holds.new _ _ _
  have s1 : stepM ro ⟨h, h.length, h.length⟩ (.al 49 (ints (List.replicate 29 0))) = some (.p (some ⟨false, h.length, 0⟩), ⟨H1, h.length, h.length⟩) := by rw [e1]; exact al_ok _ _
  have hfill : (fillA (ints (List.replicate 29 0)) []).map AVal.agg = some (.agg (ints (List.replicate 29 0))) := rfl
  -- written with zeros and read again
  have back : ∀ {H : Heap} {z z0 : List Int}, Keep h H → HI H h.length z0 → z0.length = 29 → z.length = 29 → ∃ H', stepM ro ⟨H, h.length, h.length⟩ (.st 29 (.c (.p (some ⟨false, h.length, 0⟩))) (.c (.agg (ints z)))) = some (und, ⟨H', h.length, h.length⟩) ∧ ldM ro ⟨H', h.length, h.length⟩ false 29 (.p (some ⟨false, h.length, 0⟩)) = some (.agg (ints z)) ∧ Keep h H' := fun {H z z0} k hz0 hl0 hl => by
    obtain ⟨H', u1, u2, u3, u4, k'⟩ := Holds.st (ro := ro) (v := .agg (ints z)) (vs' := ints z) (n := 29) (h := h) hz0 rfl (by simp [hl]) (by simp [hl, hl0]) (ones_ints _) (Nat.le_refl _) k
    exact ⟨H', u1, ld_all (z := z) u2 hl.symm, k'⟩
  suffices hs : ∃ z, z.length = 29 ∧ (errF n fs = 0 → z = gdn fs) ∧ g17 (meansX F1 ro) ro n v ⟨h, h.length, h.length⟩ = some (.tup [.agg (ints z), .i .i64 (errF n fs)], h, h.length, h.length) by
    obtain ⟨z, h1, h2, h3⟩ := hs
    exact ⟨z, h1, h2, g17_ok (meansX_ok F1 ro) rfl h3⟩
  unfold g17
  by_cases h1 : n < 1 ∨ 8 < n
  · have he : errF n fs = 2 := by unfold errF; rw [if_pos h1]
    obtain ⟨H', u1, u2, k'⟩ := back (z := List.replicate 29 0) k1 hz (by simp) (by simp)
    refine ⟨List.replicate 29 0, by simp, fun e => (by rw [he] at e; exact absurd e (by decide)), ?_⟩
    rw [he]
    refine (bindP_of s1).trans ?_
    have hc : (bindO (cond (decide (n < 1)) (some true) (some (decide (8 < n)))) fun c14 => some c14) = some true := by
      rcases h1 with h1 | h1
      · rw [dT h1]; rfl
      · rw [dT h1]; cases decide (n < 1) <;> rfl
    have hc' : (cond (decide (n < 1)) (some true) (some (decide (8 < n)))) = some true := by
      rcases h1 with h1 | h1
      · rw [dT h1]; rfl
      · rw [dT h1]; cases decide (n < 1) <;> rfl
    simp only [forceB_eq, ltI_eq]
    rw [bindO_of hc']
    simp only [cond_true]
    refine (bindO_of hfill).trans ?_
    rw [bindP_of u1, bindO_of u2]
    exact fin_keep k' (bel_tup2 _ _ _)
  have hn1 : ¬ n < 1 := fun hh => h1 (.inl hh)
  have hn8 : ¬ 8 < n := fun hh => h1 (.inr hh)
  by_cases h2 : 14 < fs.length
  · have he : errF n fs = 3 := by unfold errF; rw [if_neg h1, if_pos h2]
    obtain ⟨H', u1, u2, k'⟩ := back (z := List.replicate 29 0) k1 hz (by simp) (by simp)
    refine ⟨List.replicate 29 0, by simp, fun e => (by rw [he] at e; exact absurd e (by decide)), ?_⟩
    rw [he]
    refine (bindP_of s1).trans ?_
    have h2' : decide ((14 : Int) < (fs.length : Int)) = true := dT (by omega)
    simp only [forceB_eq, ltI_eq, dF hn1, dF hn8, cond_false, bindO_some, len_F a, asI_i, h2', cond_true]
    refine (bindO_of hfill).trans ?_
    rw [bindP_of u1, bindO_of u2]
    exact fin_keep k' (bel_tup2 _ _ _)
  have h2' : decide ((14 : Int) < (fs.length : Int)) = false := dF (by omega)
  obtain ⟨r, r1, r2⟩ := read_loop (n := n) a rfl (Nat.le_refl _) k1 hz (by omega)
  rcases r2 with ⟨H, rfl, kp, q1, hall⟩ | ⟨H, rfl, kp, q1, hall⟩
  · have he : errF n fs = 0 := by unfold errF; rw [if_neg h1, if_neg h2, if_pos hall]
    obtain ⟨H2, e2⟩ : ∃ H2, H2 = H ++ [some (blkOf 49 (ints (List.replicate 29 0)))] := ⟨_, rfl⟩
    have hlt := q1.lt
    have k2 : Keep H H2 := by rw [e2]; exact Keep.app _
    have hz2 : HI H2 H.length (List.replicate 29 0) := by rw [e2]; exact Holds.new _ _ _
    have s2 : stepM ro ⟨H, h.length, h.length⟩ (.al 49 (ints (List.replicate 29 0))) = some (.p (some ⟨false, H.length, 0⟩), ⟨H2, h.length, h.length⟩) := by rw [e2]; exact al_ok _ _
    obtain ⟨zz, ezz⟩ : ∃ zz : List Int, zz = (fs.length : Int) :: List.replicate 28 0 := ⟨_, rfl⟩
    have hzz : zz.length = 29 := by rw [ezz]; rfl
    obtain ⟨H3, u1, u2, u3, u4, k3⟩ := Holds.st (ro := ro) (v := .agg (ints zz)) (vs' := ints zz) (n := 29) (h := h) hz2 rfl (by simp [hzz]) (by simp [hzz]) (ones_ints _) (by omega) (kp.trans k2)
    obtain ⟨H4, x, c1, c2, c3, k4⟩ := cp_fences (z := zz) a k3 u2 hzz (by omega) (show h.length ≤ H.length by omega)
    have hg : cpL zz (flatF fs) 1 (fs.length * 2) = gdn fs := by rw [ezz]; rfl
    rw [hg] at c2
    have d1 := ld_all (ro := ro) (l := h.length) (p := h.length) (n := 29) c2 (gdn_len fs).symm
    have q4 : HI H4 h.length (List.replicate 29 0) := ((q1.by k2).keep (u4 _ (by omega))).keep (c3 _ (by omega))
    obtain ⟨H', y1, y2, k'⟩ := back (z := gdn fs) k4 q4 (by simp) (gdn_len fs)
    have hfill2 : (fillA (ints (List.replicate 29 0)) [((0, 1), (.i .i64 (fs.length : Int)))]).map AVal.agg = some (.agg (ints zz)) := by rw [ezz]; rfl
    have hsl : evP .e (.slA 14 2 (.c (.p (some ⟨false, H.length, 0 + 1⟩))) none none) = some (.sl ⟨false, H.length, 0 + 1 + 0 * 2⟩ (14 - 0) (.known (14 - 0))) := rfl
    refine ⟨gdn fs, gdn_len fs, fun _ => rfl, ?_⟩
    rw [he]
    refine (bindP_of s1).trans ?_
    simp only [forceB_eq, ltI_eq, dF hn1, dF hn8, cond_false, bindO_some, len_F a, asI_i, h2', meansX_loop]
    rw [bindO_of r1]
    simp only [len_F a, bindO_some, asI_i]
    refine (bindO_of hfill2).trans ?_
    refine (bindP_of s2).trans ?_
    rw [bindP_of u1]
    simp only [p_faddr, bindO_some]
    rw [bindO_of hsl, bindP_of c1]
    simp only [asI_i]
    rw [bindO_of d1, bindP_of y1, bindO_of y2]
    exact fin_keep k' (bel_tup2 _ _ _)
  · have he : errF n fs = 2 := by unfold errF; rw [if_neg h1, if_neg h2, if_neg hall]
    have d1 := ld_all (ro := ro) (l := h.length) (p := h.length) (n := 29) q1 (by simp)
    refine ⟨List.replicate 29 0, by simp, fun e => (by rw [he] at e; exact absurd e (by decide)), ?_⟩
    rw [he]
    refine (bindP_of s1).trans ?_
    simp only [forceB_eq, ltI_eq, dF hn1, dF hn8, cond_false, bindO_some, len_F a, asI_i, h2', meansX_loop]
    rw [bindO_of r1]
    simp only []
    rw [bindO_of d1]
    exact fin_keep kp (bel_tup2 _ _ _)
end
end Go.Proofs.Ytdjffnfjbeiomaa.T

/- The groups, by the reference. -/
open Go.Vm
set_option linter.unusedVariables false
namespace Go.Proofs.Ytdjffnfjbeiomaa.T
open Go

theorem evn_mod {a k : Nat} (hk : k ≤ 60) : eqI (Int.tmod (shrV .i64 (a : Int) (k : Int)) 2) 0 = !a.testBit k := by
  rw [shr64 hk]
  have e : Int.tmod ((a / 2 ^ k : Nat) : Int) 2 = ((a / 2 ^ k % 2 : Nat) : Int) := tmod_nat _ 2
  rw [e, eqI_eq, Nat.testBit_eq_decide_div_mod_eq]
  by_cases h : a / 2 ^ k % 2 = 1
  · simp [h]
  · have : a / 2 ^ k % 2 = 0 := by omega
    simp [this]
section
variable {ro : List ABlk} {h : Heap} {v : AVal} {fs : List Fe} {n : Nat}
theorem merge20 {H : Heap} {b : Nat} {x2 x59 x10 kept gone : Int} {L : List Int} (hl : L.length = n) (hn : n ≤ 8) (kp : Keep h H) (hb : h.length ≤ b) (hz : HI H b L) :
    ∃ H', loopX (fun t : Int × Mm => g20_b4 (meansX F1 ro) ro (n : Int) v x2 (.sl ⟨false, b, 0⟩ n (.known n)) x59 x10 gone kept t.1 t.2) (0, ⟨H, h.length, h.length⟩) = some ⟨H', h.length, h.length⟩ ∧ Keep h H' ∧ HI H' b (mrg L kept gone) := by
  have key := loop_gen (b := fun t : Int × Mm => g20_b4 (meansX F1 ro) ro (n : Int) v x2 (.sl ⟨false, b, 0⟩ n (.known n)) x59 x10 gone kept t.1 t.2) n
    (fun j t => ∃ H', t = ((j : Int), (⟨H', h.length, h.length⟩ : Mm)) ∧ Keep h H' ∧ HI H' b (mrgTo L kept gone j))
    (fun r => ∃ H', r = (⟨H', h.length, h.length⟩ : Mm) ∧ Keep h H' ∧ HI H' b (mrg L kept gone)) ?_ ?_ n 0 (0, ⟨H, h.length, h.length⟩) (by omega) ⟨H, rfl, kp, by rw [mrgTo_zero]; exact hz⟩
  · obtain ⟨r, r1, H', rfl, h1⟩ := key
    exact ⟨H', r1, h1⟩
  · rintro j t hj ⟨H', rfl, kp', hz'⟩
    have d1 := ldM_at (ro := ro) (l := h.length) (p := h.length) (k := j) (off := 0 + j) hz' (by rw [mrgTo_len]; omega) (by omega)
    rw [mrgTo_get (by omega), if_neg (by omega)] at d1
    simp only [g20_b4, forceB_eq, ltI_eq, lt_yes hj, cond_true, ix_new hj, bindO_some, d1, asI_i, forceI_eq, wr_next (show j ≤ 1000000 by omega)]
    by_cases e : at0 L j = gone
    · obtain ⟨H2, w1, w2, w3, w4, w5⟩ := st_at (ro := ro) (x := kept) (k := j) hz' (by rw [mrgTo_len]; omega) (off := 0 + j) (by omega) hb kp'
      have e' : L.getD j 0 = gone := e
      simp only [eqT e', cond_true, w1, bindP_some, bindO_some]
      exact ⟨_, rfl, H2, rfl, w5, by rw [← mrgTo_set (by omega) e]; exact w2⟩
    · have e' : L.getD j 0 ≠ gone := e
      simp only [eqF e', cond_false, bindO_some]
      exact ⟨_, rfl, H', rfl, kp', by rw [mrgTo_skip (by omega) e]; exact hz'⟩
  · rintro t ⟨H', rfl, kp', hz'⟩
    simp only [g20_b4, forceB_eq, ltI_eq, lt_no, cond_false]
    refine ⟨_, rfl, H', rfl, kp', ?_⟩
    rw [← hl, mrgTo_all] at hz'
    exact hz'
theorem groups20 {s : Nat} (a : IsF ro h v fs) (he : errF (n : Int) fs = 0) : callX F1 ro 20 [.i .i64 (n : Int), v, .i .i64 (s : Int)] h = some (.i .i64 ((cls n (lbR n (pA fs) (pB fs) (fun j => s.testBit j) fs.length) : Nat) : Int), h, h.length, h.length) := by
  obtain ⟨n1, n8, hl, hok⟩ := errF_zero he
  obtain ⟨-, hg⟩ := gdn_ok he
  have hA : ∀ j, j < fs.length → pA fs j < n := fun j hj => by have := (hg j hj).2.2.1; simpa using this
  have hB : ∀ j, j < fs.length → pB fs j < n := fun j hj => by have := (hg j hj).2.2.2; simpa using this
  obtain ⟨s1, z1⟩ := mkI (ro := ro) (hp := h) (n := n) (by omega) (l := h.length) (p := h.length)
  obtain ⟨H1, e1⟩ : ∃ H1, H1 = h ++ [some (newBlk 3 (.i .i64 0) n)] := ⟨_, rfl⟩
  rw [← e1] at s1 z1
  have k1 : Keep h H1 := by rw [e1]; exact Keep.app _
  obtain ⟨r1, f1, H2, rfl, k2, z2⟩ : ∃ r, loopX (fun t : Int × Mm => g20_b0 (meansX F1 ro) ro (n : Int) v (s : Int) (.sl ⟨false, h.length, 0⟩ n (.known n)) t.1 t.2) (0, ⟨H1, h.length, h.length⟩) = some r ∧ ∃ H, r = (⟨H, h.length, h.length⟩ : Mm) ∧ Keep h H ∧ HI H h.length (idL n) := by
    refine loop_gen (b := fun t : Int × Mm => g20_b0 (meansX F1 ro) ro (n : Int) v (s : Int) (.sl ⟨false, h.length, 0⟩ n (.known n)) t.1 t.2) n
      (fun j t => ∃ H L, t = ((j : Int), (⟨H, h.length, h.length⟩ : Mm)) ∧ Keep h H ∧ HI H h.length L ∧ L.length = n ∧ ∀ i, i < j → L.getD i 0 = (i : Int)) _ ?_ ?_ n 0 (0, ⟨H1, h.length, h.length⟩) (by omega) ⟨H1, _, rfl, k1, z1, by simp, fun i hi => by omega⟩
    · rintro j t hj ⟨H, L, rfl, kp, q3, q4, q5⟩
      obtain ⟨H', w1, w2, w3, w4, w5⟩ := st_at (ro := ro) (x := (j : Int)) (k := j) q3 (by omega) (off := 0 + j) (by omega) (Nat.le_refl _) kp
      simp only [g20_b0, forceB_eq, ltI_eq, lt_yes hj, cond_true, ix_new hj, bindO_some, w1, bindP_some, forceI_eq, wr_next (show j ≤ 1000000 by omega)]
      refine ⟨_, rfl, H', _, rfl, w5, w2, by simpa using q4, fun i hi => ?_⟩
      rw [set_get (by omega)]
      by_cases e : j = i
      · subst e; rw [if_pos rfl]
      · rw [if_neg e]; exact q5 i (by omega)
    · rintro t ⟨H, L, rfl, kp, q3, q4, q5⟩
      simp only [g20_b0, forceB_eq, ltI_eq, lt_no, cond_false]
      have e : L = idL n := ext_getD (by rw [q4, idL_len]) fun i hi => by rw [q5 i (by omega)]; exact (idL_get (by omega)).symm
      rw [e] at q3
      exact ⟨_, rfl, H, rfl, kp, q3⟩
  obtain ⟨r2, f2, H3, rfl, k3⟩ : ∃ r, loopX (fun t : Int × Int × Mm => g20_b1 (meansX F1 ro) ro (n : Int) v (s : Int) (.sl ⟨false, h.length, 0⟩ n (.known n)) t.1 t.2.1 t.2.2) ((n : Int), 0, ⟨H2, h.length, h.length⟩) = some r ∧ ∃ H, r = ((((cls n (lbR n (pA fs) (pB fs) (fun j => s.testBit j) fs.length) : Nat) : Int), (⟨H, h.length, h.length⟩ : Mm)) : Int × Mm) ∧ Keep h H := by
    refine loop_gen (b := fun t : Int × Int × Mm => g20_b1 (meansX F1 ro) ro (n : Int) v (s : Int) (.sl ⟨false, h.length, 0⟩ n (.known n)) t.1 t.2.1 t.2.2) fs.length
      (fun i t => ∃ H, t = (((cls n (lbR n (pA fs) (pB fs) (fun j => s.testBit j) i) : Nat) : Int), (i : Int), (⟨H, h.length, h.length⟩ : Mm)) ∧ Keep h H ∧ HI H h.length (lbR n (pA fs) (pB fs) (fun j => s.testBit j) i)) _ ?_ ?_ fs.length 0 _ (by omega) ⟨H2, by rw [show lbR n (pA fs) (pB fs) (fun j => s.testBit j) 0 = idL n from rfl, cls_id]; rfl, k2, z2⟩
    · rintro i t hi ⟨H, rfl, kp, q1⟩
      obtain ⟨L, eL⟩ : ∃ L, L = lbR n (pA fs) (pB fs) (fun j => s.testBit j) i := ⟨_, rfl⟩
      have hL : L.length = n := by rw [eL, lbR_len]
      have hsucc : lbR n (pA fs) (pB fs) (fun j => s.testBit j) (i + 1) = if s.testBit i = true then mrg L (at0 L (pB fs i)) (at0 L (pA fs i)) else L := by rw [eL]; rfl
      try dsimp only
      rw [← eL] at q1 ⊢
      rw [hsucc]
      obtain ⟨⟨qr, qb, qo⟩, g1, g2⟩ := at_F a hi
      obtain ⟨-, -, -, g3, g4⟩ := g2 kp
      have hoki := okF_iff.1 (hok i hi)
      have ea : (fs.getD i Fe.z).a = (pA fs i : Int) := by unfold pA; omega
      have eb : (fs.getD i Fe.z).b = (pB fs i : Int) := by unfold pB; omega
      rw [ea] at g3
      rw [eb] at g4
      have d1 := ldA_at (ro := ro) (k := pA fs i) (off := 0 + pA fs i) q1 (by rw [hL]; exact hA i hi) (by omega)
      have d2 := ldA_at (ro := ro) (k := pB fs i) (off := 0 + pB fs i) q1 (by rw [hL]; exact hB i hi) (by omega)
      have st := cls_step hL (hA i hi) (hB i hi)
      have cle : cls n L ≤ n := cls_le
      obtain ⟨Hm, m1, m2, m3⟩ := merge20 (ro := ro) (v := v) (x2 := (s : Int)) (x59 := ((cls n L - 1 : Nat) : Int)) (x10 := (i : Int)) (kept := at0 L (pB fs i)) (gone := at0 L (pA fs i)) hL (by omega) kp (Nat.le_refl _) q1
      have m1' : loopX (fun t : Int × Mm => g20_b4 (meansX F1 ro) ro (n : Int) v (s : Int) (.sl ⟨false, h.length, 0⟩ n (.known n)) ((cls n L - 1 : Nat) : Int) (i : Int) (L.getD (pA fs i) 0) (L.getD (pB fs i) 0) t.1 t.2) (0, ⟨H, h.length, h.length⟩) = some ⟨Hm, h.length, h.length⟩ := m1
      simp only [g20_b1, len_F a, bindO_some, asI_i, forceB_eq, ltI_eq, lt_yes hi, cond_true, g1, p_faddr, g3, g4, ix_new (hA i hi), ix_new (hB i hi), d1, d2, forceI_eq, evn_mod (show i ≤ 60 by omega), wr_next (show i ≤ 1000000 by omega), meansX_loop]
      have hchk : (!decide ((i : Int) < Int.ofNat 0)) = true := by simp
      simp only [hchk, chk_true]
      cases hbit : s.testBit i
      · simp only [Bool.not_false, cond_true, bindO_some, Bool.false_eq_true, if_false]
        exact ⟨_, rfl, H, rfl, kp, q1⟩
      · simp only [Bool.not_true, cond_false, bindO_some, if_true]
        by_cases e : at0 L (pA fs i) = at0 L (pB fs i)
        · have e' : L.getD (pA fs i) 0 = L.getD (pB fs i) 0 := e
          simp only [eqT e', cond_true, bindO_some]
          rw [e, mrg_same]
          exact ⟨_, rfl, H, rfl, kp, q1⟩
        · have e' : L.getD (pA fs i) 0 ≠ L.getD (pB fs i) 0 := e
          rw [if_neg e] at st
          simp only [eqF e', cond_false, bindO_some, last_cast (show 1 ≤ cls n L by omega) (show cls n L ≤ 1000000 by omega)]
          rw [bindO_of m1']
          refine ⟨_, rfl, Hm, ?_, m2, m3⟩
          rw [show cls n L - 1 = cls n (mrg L (at0 L (pB fs i)) (at0 L (pA fs i))) by omega]
    · rintro t ⟨H, rfl, kp, q1⟩
      simp only [g20_b1, len_F a, bindO_some, asI_i, forceB_eq, ltI_eq, lt_no, cond_false]
      exact ⟨_, rfl, H, rfl, kp⟩
  refine g20_ok (meansX_ok F1 ro) rfl ?_
  unfold g20
  rw [bindP_of s1]
  simp only [meansX_loop]
  rw [bindO_of f1, bindO_of f2]
  exact fin_keep k3 rfl
end
end Go.Proofs.Ytdjffnfjbeiomaa.T

/- Groups and Bridges, by the program and by the reference. -/
open Go.Vm
set_option linter.unusedVariables false
namespace Go.Proofs.Ytdjffnfjbeiomaa.T
open Go

def nts (l : List Nat) : List Int := l.map fun i : Nat => ((i : Nat) : Int)
theorem nts_one (i : Nat) : nts [i] = [((i : Nat) : Int)] := rfl
theorem nts_len (l : List Nat) : (nts l).length = l.length := by simp [nts]
theorem nts_app (a b : List Nat) : nts (a ++ b) = nts a ++ nts b := by simp [nts]
theorem filter_succ (f : Nat → Bool) (i : Nat) : (List.range (i + 1)).filter f = (List.range i).filter f ++ cond (f i) [i] [] := by
  rw [List.range_succ, List.filter_append]
  cases h : f i <;> simp [h]
theorem bits_all : ∀ m, m < 15 → ∀ j, j < m → (2 ^ m - 1 : Nat).testBit j = true := by decide +kernel
theorem bits_one : ∀ m, m < 15 → ∀ i, i < m → ∀ j, j < m → (2 ^ m - 1 - 2 ^ i : Nat).testBit j = !Nat.beq j i := by decide +kernel
theorem pow14 {m : Nat} (hm : m < 15) : 2 ^ m ≤ 16384 := by
  have := Nat.pow_le_pow_right (show 0 < 2 by omega) (show m ≤ 14 by omega)
  simpa using this
/-- the groups of a garden, and its bridges -/
def grpF (n : Nat) (fs : List Fe) : Nat := cls n (lbR n (pA fs) (pB fs) allT fs.length)
def brF (n : Nat) (fs : List Fe) (i : Nat) : Bool := decide (grpF n fs < cls n (lbR n (pA fs) (pB fs) (fun j => !Nat.beq j i) fs.length))
def brsF (n : Nat) (fs : List Fe) : List Nat := (List.range fs.length).filter (brF n fs)
def grpE (n : Int) (fs : List Fe) : Int := if errF n fs = 0 then ((grpF n.toNat fs : Nat) : Int) else 0
def brsE (n : Int) (fs : List Fe) : List Int := if errF n fs = 0 then nts (brsF n.toNat fs) else []
section
variable {ro : List ABlk} {h : Heap} {v : AVal} {fs : List Fe} {n : Int}
theorem gdn_lbR {N : Nat} {bit : Nat → Bool} (he : errF n fs = 0) : lbR N (prA (gdn fs)) (prB (gdn fs)) bit fs.length = lbR N (pA fs) (pB fs) bit fs.length := by
  obtain ⟨-, hg⟩ := gdn_ok he
  exact lbR_congrA fs.length fun j hj => ⟨(hg j hj).1, (hg j hj).2.1⟩
theorem beq_ne0 {x : Int} (hx : x ≠ 0) : (!eqI x 0) = true := neqT hx
/-- Groups -/
theorem groups9 (a : IsF ro h v fs) : callX F1 ro 9 [.i .i64 n, v] h = some (.tup [.i .i64 (grpE n fs), .i .i64 (errF n fs)], h, h.length, h.length) := by
  obtain ⟨z, z1, z2, z3⟩ := read17 (ro := ro) (n := n) a
  have s1 := cp2 (l := h.length) (p := h.length) z3 (Nat.le_refl _) (Nat.le_refl _)
  obtain ⟨H1, t1, t2, t3, k1, l1⟩ := al_st (ro := ro) (h := h) (e := 49) (n := 29) (x := List.replicate 29 0) (y := z) (Keep.refl h) rfl z1
  have c1 := ld_all (ro := ro) (l := h.length) (p := h.length) (n := 29) t3 z1.symm
  refine g9_ok (meansX_ok F1 ro) rfl ?_
  unfold g9
  rw [meansX_call, bindP_of s1]
  simp only [x0, x1, bindO_some, asI_i]
  refine (bindP_of t1).trans ?_
  rw [bindP_of t2]
  unfold grpE
  by_cases he : errF n fs = 0
  · rw [if_pos he, he]
    obtain ⟨g, hg⟩ := gdn_ok he
    obtain ⟨n1, n8, hl, hok⟩ := errF_zero he
    have ez := z2 he
    subst ez
    have s2 := cp2 (l := h.length) (p := h.length) (joins21 (ro := ro) (h := H1) g) (by omega) (by omega)
    have hj := joins_cls (n := n.toNat) g (by omega) (fun j hj => by rw [(hg j hj).1]; exact (hg j hj).2.2.1) (fun j hj => by rw [(hg j hj).2.1]; exact (hg j hj).2.2.2) fs.length (Nat.le_refl _)
    rw [gdn_lbR he] at hj
    simp only [forceB_eq, neqF, cond_false]
    rw [bindO_of c1, bindP_of s2]
    simp only [asI_i, forceI_eq]
    rw [wr_id' (by omega) (by omega)]
    have e : n - ((cntB (jnB (lbP (gdn fs) fs.length)) 8 : Nat) : Int) = ((grpF n.toNat fs : Nat) : Int) := by unfold grpF; omega
    rw [e]
    exact fin_keep k1 rfl
  · rw [if_neg he]
    simp only [forceB_eq, beq_ne0 he, cond_true]
    exact fin_keep k1 rfl
/-- and by the reference -/
theorem groups10 (a : IsF ro h v fs) : callX F1 ro 10 [.i .i64 n, v] h = some (.tup [.i .i64 (grpE n fs), .i .i64 (errF n fs)], h, h.length, h.length) := by
  have s1 := cp2 (l := h.length) (p := h.length) (garden19 (ro := ro) (n := n) a) (Nat.le_refl _) (Nat.le_refl _)
  refine g10_ok (meansX_ok F1 ro) rfl ?_
  unfold g10
  rw [meansX_call, bindP_of s1]
  simp only [asI_i]
  unfold grpE
  by_cases he : errF n fs = 0
  · rw [if_pos he, he]
    obtain ⟨n1, n8, hl, hok⟩ := errF_zero he
    have hp := pow14 (show fs.length < 15 by omega)
    have h1 := Nat.one_le_two_pow (n := fs.length)
    obtain ⟨N, rfl⟩ : ∃ N : Nat, n = (N : Int) := ⟨n.toNat, by omega⟩
    have s2 := cp2 (l := h.length) (p := h.length) (groups20 (ro := ro) (s := 2 ^ fs.length - 1) a he) (Nat.le_refl _) (Nat.le_refl _)
    rw [lbR_congr (bit' := allT) fs.length fun j hj => bits_all _ (by omega) j hj] at s2
    simp only [forceB_eq, neqF, cond_false, len_F a, bindO_some, asI_i, neg_ltI, chk_true, forceI_eq, shl1 (show fs.length ≤ 60 by omega), last_cast h1 (show 2 ^ fs.length ≤ 1000000 by omega)]
    rw [bindP_of s2]
    simp only [asI_i]
    exact fin_keep (Keep.refl h) rfl
  · rw [if_neg he]
    simp only [forceB_eq, beq_ne0 he, cond_true]
    exact fin_keep (Keep.refl h) rfl
theorem flen (f : Nat → Bool) (i : Nat) : ((List.range i).filter f).length ≤ i := by
  have := List.length_filter_le f (List.range i)
  rwa [List.length_range] at this
/-- Bridges -/
theorem bridges6 (a : IsF ro h v fs) : ∃ out H, callX F1 ro 6 [.i .i64 n, v] h = some (.tup [out, .i .i64 (errF n fs)], H, h.length, h.length) ∧ Keep h H ∧ IsRow ro H out (brsE n fs) := by
  obtain ⟨z, z1, z2, z3⟩ := read17 (ro := ro) (n := n) a
  have s1 := cp2 (l := h.length) (p := h.length) z3 (Nat.le_refl _) (Nat.le_refl _)
  obtain ⟨H1, t1, t2, t3, k1, l1⟩ := al_st (ro := ro) (h := h) (e := 49) (n := 29) (x := List.replicate 29 0) (y := z) (Keep.refl h) rfl z1
  suffices hs : ∃ out H, g6 (meansX F1 ro) ro n v ⟨h, h.length, h.length⟩ = some (.tup [out, .i .i64 (errF n fs)], H, h.length, h.length) ∧ Keep h H ∧ IsRow ro H out (brsE n fs) by
    obtain ⟨out, H, h1, h2⟩ := hs
    exact ⟨out, H, g6_ok (meansX_ok F1 ro) rfl h1, h2⟩
  unfold g6
  have pre : ∀ {α : Type} (f : AVal → Int → Mm → Option α), (bindP (callM (callX F1 ro) ⟨h, h.length, h.length⟩ 17 [.i .i64 n, v]) fun v13 m_1 => bindO (evP .e (.ext 0 (.c v13))) fun v14 => bindO (evP .e (.ext 1 (.c v13))) fun v15 => asI .i64 v15 fun x15 => bindP (stepM ro m_1 (.al 49 (ints (List.replicate 29 0)))) fun v6 m_2 => bindP (stepM ro m_2 (.st 29 (.c v6) (.c v14))) fun vn m_3 => f v6 x15 m_3) = f (.p (some ⟨false, h.length, 0⟩)) (errF n fs) ⟨H1, h.length, h.length⟩ := fun f => by
    rw [bindP_of s1]
    simp only [x0, x1, bindO_some, asI_i]
    rw [bindP_of t1, bindP_of t2]
  rw [meansX_call]
  unfold brsE
  by_cases he : errF n fs = 0
  · rw [if_pos he]
    obtain ⟨g, hg⟩ := gdn_ok he
    obtain ⟨n1, n8, hl, hok⟩ := errF_zero he
    have ez := z2 he
    subst ez
    have key : ∃ r, loopX (fun s : AVal × Int × Mm => g6_b0 (meansX F1 ro) ro (.p (some ⟨false, h.length, 0⟩)) (fs.length : Int) s.1 s.2.1 s.2.2) (AVal.nsl, 0, ⟨H1, h.length, h.length⟩) = some r ∧ ∃ w H, r = (w, (⟨H, h.length, h.length⟩ : Mm)) ∧ Keep H1 H ∧ IsRow ro H w (nts (brsF n.toNat fs)) := by
      refine loop_gen fs.length (fun i s => ∃ w H, s = (w, (i : Int), (⟨H, h.length, h.length⟩ : Mm)) ∧ Keep H1 H ∧ GV H H1.length 3 1 w ((List.range i).filter (brF n.toNat fs)).length ((nts ((List.range i).filter (brF n.toNat fs))).map (AVal.i .i64))) _ ?_ ?_ fs.length 0 _ (by omega) ⟨.nsl, H1, rfl, Keep.refl H1, GV.nil _ _ _ _⟩
      · rintro i s hi ⟨w, H, rfl, kp, gv⟩
        have hlen := flen (brF n.toNat fs) i
        have c1 := ld_all (ro := ro) (l := h.length) (p := h.length) (n := 29) (t3.by kp) z1.symm
        have hlH := kp.1
        have s2 := cp2 (l := h.length) (p := h.length) (bridge18 (ro := ro) (h := H) g hi) (by omega) (by omega)
        have hb := bridge_cls (n := n.toNat) g (by omega) (fun j hj => by rw [(hg j hj).1]; exact (hg j hj).2.2.1) (fun j hj => by rw [(hg j hj).2.1]; exact (hg j hj).2.2.2) hi
        rw [gdn_lbR he, gdn_lbR he] at hb
        rw [hb] at s2
        have hbr : decide (cls n.toNat (lbR n.toNat (pA fs) (pB fs) allT fs.length) < cls n.toNat (lbR n.toNat (pA fs) (pB fs) (fun j => !Nat.beq j i) fs.length)) = brF n.toNat fs i := rfl
        rw [hbr] at s2
        simp only [g6_b0, forceB_eq, ltI_eq, lt_yes hi, cond_true, meansX_call]
        rw [bindO_of c1, bindP_of s2, filter_succ]
        simp only [asB_b]
        cases hf : brF n.toNat fs i
        · simp only [cond_false, bindO_some, forceI_eq, wr_next (show i ≤ 1000000 by omega)]
          exact ⟨_, rfl, w, H, rfl, kp, by simpa using gv⟩
        · obtain ⟨v2, hp2, v3, hp3, u1, u2, g2, k2, k3⟩ := GV.push (ro := ro) (L0 := h.length) (bytes := 8) (z := [AVal.i .i64 0]) (w := .i .i64 (i : Int)) (ws := [.i .i64 (i : Int)]) gv (by omega) kp.1 (by omega) (by omega) (by omega) rfl rfl rfl rfl rfl
          simp only [cond_true, u1, bindP_some, u2, bindO_some, forceI_eq, wr_next (show i ≤ 1000000 by omega)]
          refine ⟨_, rfl, v3, hp3, rfl, ⟨Nat.le_trans kp.1 k2, fun j hj => by rw [k3 j hj, kp.2 j hj]⟩, ?_⟩
          rw [List.length_append, nts_app]
          simpa [nts_one] using g2
      · rintro s ⟨w, H, rfl, kp, gv⟩
        simp only [g6_b0, forceB_eq, ltI_eq, lt_no, cond_false]
        exact ⟨_, rfl, w, H, rfl, kp, GV.row gv (by rw [nts_len]; rfl)⟩
    obtain ⟨r, r1, w, H, rfl, kp, hrow⟩ := key
    obtain ⟨H', f1, f2, f3⟩ := fin_rowW (w := .tup [w, .i .i64 0]) (k1.trans kp) hrow (by simp [AVal.bel, bels])
    have c2 := ldM_at (ro := ro) (l := h.length) (p := h.length) (k := 0) (off := 0 + 0) t3 (by omega) rfl
    rw [g.cnt] at c2
    refine ⟨w, H', ?_, f2, f3⟩
    refine (pre _).trans ?_
    rw [he]
    simp only [forceB_eq, neqF, cond_false, p_faddr, bindO_some]
    rw [bindO_of c2]
    simp only [asI_i, meansX_loop]
    rw [bindO_of r1]
    exact f1
  · rw [if_neg he]
    obtain ⟨H', f1, f2, f3⟩ := fin_rowW (ro := ro) (v := .nsl) (z := []) (w := .tup [.nsl, .i .i64 (errF n fs)]) k1 (.inl ⟨rfl, rfl⟩) rfl
    refine ⟨.nsl, H', ?_, f2, f3⟩
    refine (pre _).trans ?_
    simp only [forceB_eq, beq_ne0 he, cond_true]
    exact f1
/-- and by the reference -/
theorem bridges7 (a : IsF ro h v fs) : ∃ out H, callX F1 ro 7 [.i .i64 n, v] h = some (.tup [out, .i .i64 (errF n fs)], H, h.length, h.length) ∧ Keep h H ∧ IsRow ro H out (brsE n fs) := by
  have s1 := cp2 (l := h.length) (p := h.length) (garden19 (ro := ro) (n := n) a) (Nat.le_refl _) (Nat.le_refl _)
  suffices hs : ∃ out H, g7 (meansX F1 ro) ro n v ⟨h, h.length, h.length⟩ = some (.tup [out, .i .i64 (errF n fs)], H, h.length, h.length) ∧ Keep h H ∧ IsRow ro H out (brsE n fs) by
    obtain ⟨out, H, h1, h2⟩ := hs
    exact ⟨out, H, g7_ok (meansX_ok F1 ro) rfl h1, h2⟩
  unfold g7
  rw [meansX_call, bindP_of s1]
  simp only [asI_i]
  unfold brsE
  by_cases he : errF n fs = 0
  · rw [if_pos he, he]
    obtain ⟨n1, n8, hl, hok⟩ := errF_zero he
    have hp := pow14 (show fs.length < 15 by omega)
    have h1 := Nat.one_le_two_pow (n := fs.length)
    obtain ⟨N, rfl⟩ : ∃ N : Nat, n = (N : Int) := ⟨n.toNat, by omega⟩
    have hN : (N : Int).toNat = N := by omega
    rw [hN]
    have key : ∃ r, loopX (fun s : AVal × Int × Mm => g7_b0 (meansX F1 ro) ro (N : Int) v ((2 ^ fs.length - 1 : Nat) : Int) s.1 s.2.1 s.2.2) (AVal.nsl, 0, ⟨h, h.length, h.length⟩) = some r ∧ ∃ w H, r = (w, (⟨H, h.length, h.length⟩ : Mm)) ∧ Keep h H ∧ IsRow ro H w (nts (brsF N fs)) := by
      refine loop_gen fs.length (fun i s => ∃ w H, s = (w, (i : Int), (⟨H, h.length, h.length⟩ : Mm)) ∧ Keep h H ∧ GV H h.length 3 1 w ((List.range i).filter (brF N fs)).length ((nts ((List.range i).filter (brF N fs))).map (AVal.i .i64))) _ ?_ ?_ fs.length 0 _ (by omega) ⟨.nsl, h, rfl, Keep.refl h, GV.nil _ _ _ _⟩
      · rintro i s hi ⟨w, H, rfl, kp, gv⟩
        have hlen := flen (brF N fs) i
        have hlH := kp.1
        have aH : IsF ro H v fs := a.by kp
        have hpi : 2 ^ i < 2 ^ fs.length := Nat.pow_lt_pow_right (by omega) hi
        have s2 := cp2 (l := h.length) (p := h.length) (groups20 (ro := ro) (s := 2 ^ fs.length - 1) aH he) (by omega) (by omega)
        rw [lbR_congr (bit' := allT) fs.length fun j hj => bits_all _ (by omega) j hj] at s2
        have s3 := cp2 (l := h.length) (p := h.length) (groups20 (ro := ro) (s := 2 ^ fs.length - 1 - 2 ^ i) aH he) (by omega) (by omega)
        rw [lbR_congr (bit' := fun j => !Nat.beq j i) fs.length fun j hj => bits_one _ (by omega) i hi j hj] at s3
        have hw : wr .i64 (((2 ^ fs.length - 1 : Nat) : Int) - ((2 ^ i : Nat) : Int)) = ((2 ^ fs.length - 1 - 2 ^ i : Nat) : Int) := by
          have e : ((2 ^ fs.length - 1 : Nat) : Int) - ((2 ^ i : Nat) : Int) = ((2 ^ fs.length - 1 - 2 ^ i : Nat) : Int) := by omega
          have hX : (2 ^ fs.length - 1 - 2 ^ i : Nat) ≤ 16384 := Nat.le_trans (Nat.sub_le _ _) (Nat.le_trans (Nat.sub_le _ _) hp)
          rw [e]
          generalize (2 ^ fs.length - 1 - 2 ^ i : Nat) = X at hX
          exact wr_id' (by omega) (by omega)
        have hbr : decide (((cls N (lbR N (pA fs) (pB fs) allT fs.length) : Nat) : Int) < ((cls N (lbR N (pA fs) (pB fs) (fun j => !Nat.beq j i) fs.length) : Nat) : Int)) = brF N fs i := by
          unfold brF grpF
          simp only [Int.ofNat_lt]
        simp only [g7_b0, len_F aH, bindO_some, asI_i, forceB_eq, ltI_eq, lt_yes hi, cond_true, meansX_call]
        have hchk : (!decide ((i : Int) < Int.ofNat 0)) = true := by simp
        simp only [hchk, chk_true, forceI_eq, shl1 (show i ≤ 60 by omega), hw]
        rw [bindP_of s3]
        simp only [asI_i]
        rw [bindP_of s2, filter_succ]
        simp only [asI_i, hbr]
        cases hf : brF N fs i
        · simp only [cond_false, bindO_some, wr_next (show i ≤ 1000000 by omega)]
          exact ⟨_, rfl, w, H, rfl, kp, by simpa using gv⟩
        · obtain ⟨v2, hp2, v3, hp3, u1, u2, g2, k2, k3⟩ := GV.push (ro := ro) (L0 := h.length) (bytes := 8) (z := [AVal.i .i64 0]) (w := .i .i64 (i : Int)) (ws := [.i .i64 (i : Int)]) gv (Nat.le_refl _) kp.1 (by omega) (by omega) (by omega) rfl rfl rfl rfl rfl
          simp only [cond_true, u1, bindP_some, u2, bindO_some, wr_next (show i ≤ 1000000 by omega)]
          refine ⟨_, rfl, v3, hp3, rfl, ⟨Nat.le_trans kp.1 k2, fun j hj => by rw [k3 j hj, kp.2 j hj]⟩, ?_⟩
          rw [List.length_append, nts_app]
          simpa [nts_one] using g2
      · rintro s ⟨w, H, rfl, kp, gv⟩
        simp only [g7_b0, len_F (a.by kp), bindO_some, asI_i, forceB_eq, ltI_eq, lt_no, cond_false]
        exact ⟨_, rfl, w, H, rfl, kp, GV.row gv (by rw [nts_len]; rfl)⟩
    obtain ⟨r, r1, w, H, rfl, kp, hrow⟩ := key
    obtain ⟨H', f1, f2, f3⟩ := fin_rowW (w := .tup [w, .i .i64 0]) kp hrow (by simp [AVal.bel, bels])
    refine ⟨w, H', ?_, f2, f3⟩
    simp only [forceB_eq, neqF, cond_false, len_F a, bindO_some, asI_i, neg_ltI, chk_true, forceI_eq, shl1 (show fs.length ≤ 60 by omega), last_cast h1 (show 2 ^ fs.length ≤ 1000000 by omega), meansX_loop]
    rw [bindO_of r1]
    exact f1
  · rw [if_neg he]
    obtain ⟨H', f1, f2, f3⟩ := fin_rowW (ro := ro) (v := .nsl) (z := []) (w := .tup [.nsl, .i .i64 (errF n fs)]) (Keep.refl h) (.inl ⟨rfl, rfl⟩) rfl
    refine ⟨.nsl, H', ?_, f2, f3⟩
    simp only [forceB_eq, beq_ne0 he, cond_true]
    exact f1
end
end Go.Proofs.Ytdjffnfjbeiomaa.T

/- The law. -/
open Go.Vm
set_option linter.unusedVariables false
namespace Go.Proofs.Ytdjffnfjbeiomaa.T
open Go

section
variable {ro : List ABlk} {h : Heap} {v : AVal} {fs : List Fe} {n : Int}
theorem few4 (a : IsF ro h v fs) : callX F1 ro 4 [v] h = some (.b (!decide ((40 : Int) < (fs.length : Int))), h, h.length, h.length) := by
  refine g4_ok (meansX_ok F1 ro) rfl ?_
  unfold g4
  simp only [len_F a, bindO_some, asI_i, forceB_eq, ltI_eq]
  exact fin_pure rfl
theorem law3 (a : IsF ro h v fs) : callX F1 ro 3 [.i .i64 n, v] h = some (.b true, h, h.length, h.length) := by
  have s1 := cp2 (l := h.length) (p := h.length) (few4 (ro := ro) a) (Nat.le_refl _) (Nat.le_refl _)
  have sa := alv (ro := ro) (H := h) (l := h.length) (p := h.length) (Nat.le_refl _) (Nat.le_refl _)
  refine g3_ok (meansX_ok F1 ro) rfl ?_
  unfold g3
  rw [meansX_call, bindP_of s1]
  simp only [asB_b, forceB_eq, Bool.not_not]
  by_cases hf : (40 : Int) < (fs.length : Int)
  · rw [dT hf, cond_true, bindP_of sa]
    simp only [asB_b]
    exact fin_keep (Keep.refl h) rfl
  rw [dF hf, cond_false]
  have hlen : fs.length ≤ 40 := by omega
  obtain ⟨out, H1, t1, k1, r1⟩ := bridges6 (ro := ro) (n := n) a
  have s2 := cM (l := h.length) (p := h.length) t1 (Nat.le_refl _) (Nat.le_refl _)
  have l1 := k1.1
  obtain ⟨out2, H2, t2, k2, r2⟩ := bridges7 (ro := ro) (n := n) (a.by k1)
  have s3 := cM (l := h.length) (p := h.length) t2 (by omega) (by omega)
  have l2 := k2.1
  have k12 := k1.trans k2
  have hbl : (brsE n fs).length ≤ 1000000 := by
    unfold brsE
    split
    · rw [nts_len]
      have := flen (brF n.toNat fs) fs.length
      unfold brsF; omega
    · simp
  have s4 := cp2 (l := h.length) (p := h.length) (same_ok (row_by r1 k2) r2 hbl) (by omega) (by omega)
  have s5 := cp2 (l := h.length) (p := h.length) (groups9 (ro := ro) (n := n) (a.by k12)) (by omega) (by omega)
  have s6 := cp2 (l := h.length) (p := h.length) (groups10 (ro := ro) (n := n) (a.by k12)) (by omega) (by omega)
  have s7 := alv (ro := ro) (H := H2) (l := h.length) (p := h.length) (by omega) (by omega)
  rw [bindP_of s2]
  simp only [x0, x1, bindO_some, asI_i]
  rw [bindP_of s3]
  simp only [x0, x1, bindO_some, asI_i]
  rw [bindP_of s4]
  simp only [asB_b, decide_true, Bool.not_true, cond_false, eqI_self, bindO_some]
  rw [bindP_of s5]
  simp only [x0, x1, bindO_some, asI_i]
  rw [bindP_of s6]
  simp only [x0, x1, bindO_some, asI_i, eqI_self, cond_true]
  rw [bindP_of s7]
  simp only [asB_b, bindO_some]
  exact fin_keep k12 rfl
end
end Go.Proofs.Ytdjffnfjbeiomaa.T

/- The relation between the small machine's values and the model's, and the operations that touch no memory. -/
import Derived.Test.YtageakoepjkkbaaVmB
namespace Go.Vm
open Go.RowKit

abbrev Rl := List Addr
abbrev M := List (Option (Nat × Nat))

/-- where a place lies -/
def addr (rl : Rl) (m : M) (q : Loc) : Option Addr :=
  if q.ro then (rl[q.b]?).map fun x => x.add q.off
  else match m[q.b]? with
    | some (some x) => some ⟨x.1, q.off, none⟩
    | _ => none

inductive VR (rl : Rl) (m : M) : AVal → Value → Prop
  | b (x : Bool) : VR rl m (.b x) (.bool x)
  | i (k : IntKind) (n : Int) : VR rl m (.i k n) (.int k n)
  | s (l : List UInt8) : VR rl m (.s l) (.string ⟨l.toArray⟩)
  | pn : VR rl m (.p none) (.pointer none)
  | p (q : Loc) (a : Addr) (h : addr rl m q = some a) : VR rl m (.p (some q)) (.pointer (some a))
  | nsl : VR rl m .nsl (.slice none 0 0)
  | slk (q : Loc) (a : Addr) (len c : Nat) (h : addr rl m q = some a) : VR rl m (.sl q len (.known c)) (.slice (some a) len c)
  | slg (b r K len : Nat) (h : m[b]? = some (some (r, K))) (hl : len ≤ K) : VR rl m (.sl ⟨false, b, 0⟩ len .grow) (.slice (some ⟨r, 0, none⟩) len K)
  | sla (q : Loc) (a : Addr) (len c : Nat) (h : addr rl m q = some a) (hl : len ≤ c) : VR rl m (.sl q len .any) (.slice (some a) len c)
  | esl (o : Option Addr) (c : Nat) : VR rl m .esl (.slice o 0 c)
  | mp (b r K : Nat) (h : m[b]? = some (some (r, K))) : VR rl m (.mp b) (.map (some r))
  | yld (b r K : Nat) (h : m[b]? = some (some (r, K))) : VR rl m (.yld b) (.func (.yield r) #[] #[])
  | fn (f : Nat) (a c : List AVal) (a' c' : Array Value) (ha : a.length = a'.size) (hc : c.length = c'.size)
      (h1 : ∀ i v, a[i]? = some v → VR rl m v (a'.getD i undef)) (h2 : ∀ i v, c[i]? = some v → VR rl m v (c'.getD i undef)) :
      VR rl m (.fn f a c) (.func (.func f) a' c')
  | nfn : VR rl m .nfn .nilFunc
  | agg (cs : List AVal) (cs' : Array Value) (hl : cs.length = cs'.size) (h : ∀ i v, cs[i]? = some v → VR rl m v (cs'.getD i undef)) :
      VR rl m (.agg cs) (.agg cs')
  | tup (cs : List AVal) (cs' : Array Value) (hl : cs.length = cs'.size) (h : ∀ i v, cs[i]? = some v → VR rl m v (cs'.getD i undef)) :
      VR rl m (.tup cs) (.tuple cs')
  | ifc (ty : TypeId) (v : AVal) (v' : Value) (h : VR rl m v v') : VR rl m (.ifc ty v) (.iface ty v')
  | bm (name : String) (v : AVal) (v' : Value) (h : VR rl m v v') : VR rl m (.bm name v) (.func (.method name) #[v'] #[])

theorem addr_addadd (a : Addr) (i j : Nat) : (a.add i).add j = a.add (i + j) := by
  unfold Addr.add
  by_cases hi : i = 0
  · subst hi; simp
  · by_cases hj : j = 0
    · subst hj; simp
    · have : ¬ (i + j = 0) := by omega
      simp [hi, hj, Nat.add_assoc]
theorem addr_block (a : Addr) (i : Nat) : (a.add i).block = a.block := by unfold Addr.add; split <;> rfl

theorem VR.und (rl : Rl) (m : M) : VR rl m und undef := .tup [] #[] rfl (by simp)

def Mle (m m' : M) : Prop := ∀ (i : Nat) (x : Nat × Nat), m[i]? = some (some x) → m'[i]? = some (some x)
theorem Mle.refl (m : M) : Mle m m := fun _ _ h => h
theorem Mle.trans {a b c : M} (h : Mle a b) (k : Mle b c) : Mle a c := fun i x hx => k i x (h i x hx)
theorem Mle.app (m x : M) : Mle m (m ++ x) := fun i y h => by
  have hi : i < m.length := (List.getElem?_eq_some_iff.1 h).1
  rw [List.getElem?_append_left hi]; exact h

theorem addr_mono {rl : Rl} {m m' : M} (h : Mle m m') {q : Loc} {a : Addr} (ha : addr rl m q = some a) : addr rl m' q = some a := by
  unfold addr at *
  split
  · rename_i hq; simpa [hq] using ha
  · rename_i hq
    simp only [hq] at ha
    cases hm : m[q.b]? with
    | none => simp [hm] at ha
    | some x =>
      cases x with
      | none => simp [hm] at ha
      | some x => rw [h _ _ hm]; simpa [hm] using ha

theorem VR.mono {rl : Rl} {m m' : M} (h : Mle m m') {v : AVal} {v' : Value} (hv : VR rl m v v') : VR rl m' v v' := by
  induction hv with
  | b x => exact .b x
  | i k n => exact .i k n
  | s l => exact .s l
  | pn => exact .pn
  | p q a ha => exact .p q a (addr_mono h ha)
  | nsl => exact .nsl
  | slk q a len c ha => exact .slk q a len c (addr_mono h ha)
  | slg b r K len hb hl => exact .slg b r K len (h _ _ hb) hl
  | sla q a len c ha hl => exact .sla q a len c (addr_mono h ha) hl
  | esl o c => exact .esl o c
  | mp b r K hb => exact .mp b r K (h _ _ hb)
  | yld b r K hb => exact .yld b r K (h _ _ hb)
  | fn f a c a' c' ha hc _ _ h1 h2 => exact .fn f a c a' c' ha hc h1 h2
  | nfn => exact .nfn
  | agg cs cs' hl _ h1 => exact .agg cs cs' hl h1
  | tup cs cs' hl _ h1 => exact .tup cs cs' hl h1
  | ifc ty v v' _ h1 => exact .ifc ty v v' h1
  | bm name v v' _ h1 => exact .bm name v v' h1

theorem cval_sound {v : Value} {c : AVal} (h : cval v = some c) (rl : Rl) (m : M) : VR rl m c v := by
  unfold cval at h
  split at h
  · cases h; exact .b _
  · cases h; exact .i _ _
  · rename_i s
    cases h
    have e : s = ⟨s.data.toList.toArray⟩ := by cases s; simp
    rw [e]; exact .s _
  · cases h; exact .pn
  · cases h; exact .nsl
  · cases h; exact .nfn
  · cases h

theorem cvals_sound : ∀ {l : List Value} {cs : List AVal}, cvals l = some cs → ∀ (rl : Rl) (m : M),
    cs.length = l.length ∧ ∀ i v, cs[i]? = some v → VR rl m v (l.getD i undef)
  | [], cs, h, _, _ => by cases h; exact ⟨rfl, by simp⟩
  | v :: l, cs, h, rl, m => by
    unfold cvals at h
    split at h
    · rename_i x xs hx hxs
      cases h
      obtain ⟨h1, h2⟩ := cvals_sound hxs rl m
      refine ⟨by simp [h1], fun i u hu => ?_⟩
      cases i with
      | zero => simp at hu; subst hu; exact cval_sound hx rl m
      | succ i => simpa using h2 i u (by simpa using hu)
    · cases h

/- operands -/
def TRk (rl : Rl) (m : M) (t : Tr) (a : Act) (l : List Nat) : Prop := ∀ n ∈ l, VR rl m (t.get n) (a.tmps.getD n undef)

theorem TRk.mem {rl : Rl} {m : M} {t : Tr} {a : Act} {l l' : List Nat} (h : TRk rl m t a l) (hl : ∀ n ∈ l', n ∈ l) : TRk rl m t a l' :=
  fun n hn => h n (hl n hn)

theorem copd_sound {x : Operand} {y : AOpd} (h : copd x = some y) {rl : Rl} {m : M} {t : Tr} {a : Act} (ht : TRk rl m t a (opdT y)) :
    VR rl m (opd t y) (a.eval x) := by
  cases x with
  | tmp n => cases h; exact ht n (by simp [opdT])
  | const v =>
    simp only [copd, Option.map_eq_some_iff] at h
    obtain ⟨c, hc, rfl⟩ := h
    exact cval_sound hc rl m
  | func f => cases h; exact .fn f [] [] #[] #[] rfl rfl (by simp) (by simp)
  | global g => cases h

theorem copds_sound : ∀ {l : List Operand} {ys : List AOpd}, copds l = some ys → ∀ {rl : Rl} {m : M} {t : Tr} {a : Act}, TRk rl m t a (ys.flatMap opdT) →
    ys.length = l.length ∧ ∀ i v, (ys.map (opd t))[i]? = some v → VR rl m v ((l.map a.eval).getD i undef)
  | [], ys, h, _, _, _, _, _ => by cases h; exact ⟨rfl, by simp⟩
  | x :: l, ys, h, rl, m, t, a, ht => by
    unfold copds at h
    split at h
    · rename_i y ys' hy hys
      cases h
      obtain ⟨h1, h2⟩ := copds_sound hys (rl := rl) (m := m) (t := t) (a := a) (ht.mem fun n hn => by simp at hn ⊢; exact .inr hn)
      refine ⟨by simp [h1], fun i u hu => ?_⟩
      cases i with
      | zero => simp at hu; subst hu; exact copd_sound hy (ht.mem fun n hn => by simp; exact .inl hn)
      | succ i => simpa using h2 i u (by simpa using hu)
    · cases h

/- inversion: what a value of the model is where the small machine's is known -/
section
variable {rl : Rl} {m : M} {v' : Value}
theorem VR.inv_b {x : Bool} (h : VR rl m (.b x) v') : v' = .bool x := by cases h; rfl
theorem VR.inv_i {k : IntKind} {n : Int} (h : VR rl m (.i k n) v') : v' = .int k n := by cases h; rfl
theorem VR.inv_s {l : List UInt8} (h : VR rl m (.s l) v') : v' = .string ⟨l.toArray⟩ := by cases h; rfl
theorem VR.inv_p {q : Loc} (h : VR rl m (.p (some q)) v') : ∃ a, v' = .pointer (some a) ∧ addr rl m q = some a := by cases h; exact ⟨_, rfl, ‹_›⟩
theorem VR.inv_yld {b : Nat} (h : VR rl m (.yld b) v') : ∃ r K, v' = .func (.yield r) #[] #[] ∧ m[b]? = some (some (r, K)) := by cases h; exact ⟨_, _, rfl, ‹_›⟩
theorem VR.inv_ifc {ty : Nat} {v : AVal} (h : VR rl m (.ifc ty v) v') : ∃ u, v' = .iface ty u ∧ VR rl m v u := by cases h; exact ⟨_, rfl, ‹_›⟩
theorem VR.inv_bm {name : String} {v : AVal} (h : VR rl m (.bm name v) v') : ∃ u, v' = .func (.method name) #[u] #[] ∧ VR rl m v u := by cases h; exact ⟨_, rfl, ‹_›⟩
theorem VR.inv_mp {b : Nat} (h : VR rl m (.mp b) v') : ∃ r K, v' = .map (some r) ∧ m[b]? = some (some (r, K)) := by cases h; exact ⟨_, _, rfl, ‹_›⟩
theorem VR.inv_esl (h : VR rl m .esl v') : ∃ o c, v' = .slice o 0 c := by cases h; exact ⟨_, _, rfl⟩
theorem VR.inv_nsl (h : VR rl m .nsl v') : v' = .slice none 0 0 := by cases h; rfl
theorem VR.inv_agg {cs : List AVal} (h : VR rl m (.agg cs) v') : ∃ cs', v' = .agg cs' ∧ cs.length = cs'.size ∧ ∀ i v, cs[i]? = some v → VR rl m v (cs'.getD i undef) := by
  cases h; exact ⟨_, rfl, ‹_›, ‹_›⟩
theorem VR.inv_tup {cs : List AVal} (h : VR rl m (.tup cs) v') : ∃ cs', v' = .tuple cs' ∧ cs.length = cs'.size ∧ ∀ i v, cs[i]? = some v → VR rl m v (cs'.getD i undef) := by
  cases h; exact ⟨_, rfl, ‹_›, ‹_›⟩
theorem VR.inv_fn {f : Nat} {a c : List AVal} (h : VR rl m (.fn f a c) v') : ∃ a' c', v' = .func (.func f) a' c' ∧ a.length = a'.size ∧ c.length = c'.size ∧
    (∀ i v, a[i]? = some v → VR rl m v (a'.getD i undef)) ∧ ∀ i v, c[i]? = some v → VR rl m v (c'.getD i undef) := by
  cases h; exact ⟨_, _, rfl, ‹_›, ‹_›, ‹_›, ‹_›⟩
/-- what the model's room is -/
def CapR (m : M) (q : Loc) (len c' : Nat) : Cap → Prop
  | .known n => c' = n
  | .grow => q.ro = false ∧ q.off = 0 ∧ (∃ r, m[q.b]? = some (some (r, c'))) ∧ len ≤ c'
  | .any => len ≤ c'
/-- a slice: its place, its length, its room -/
theorem VR.inv_sl {q : Loc} {len : Nat} {c : Cap} (h : VR rl m (.sl q len c) v') : ∃ a c', v' = .slice (some a) len c' ∧ addr rl m q = some a ∧ CapR m q len c' c := by
  cases h with
  | slk q a len c h => exact ⟨a, c, rfl, h, rfl⟩
  | slg b r K len h hl => exact ⟨_, K, rfl, by simp [addr, h], rfl, rfl, ⟨r, h⟩, hl⟩
  | sla q a len c h hl => exact ⟨a, c, rfl, h, hl⟩
end

end Go.Vm

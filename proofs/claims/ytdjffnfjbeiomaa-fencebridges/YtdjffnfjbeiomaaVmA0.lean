/- Calls with plain arguments known beforehand: polynomials of small gardens. -/
import Derived.Test.YtdjffnfjbeiomaaVmP
import Derived.Test.YtdjffnfjbeiomaaVmAE
import Derived.Test.YtdjffnfjbeiomaaVmAG
import Derived.KernelRfl
open Go.Vm
set_option linter.unusedVariables false
namespace Go.Proofs.Ytdjffnfjbeiomaa.T
open Go
def fnB : AVal → Bool
  | .fn _ [] [] => true
  | v => v.scalar
def plainB : AVal → Bool
  | .agg cs => cs.all fnB
  | v => fnB v
theorem vr_fnB {rl : Rl} {m m' : M} {v : AVal} {v' : Value} (hs : fnB v = true) (h : VR rl m v v') : VR rl m' v v' := by
  by_cases hv : ∃ f, v = .fn f [] []
  · obtain ⟨f, rfl⟩ := hv
    obtain ⟨a', c', rfl, l1, l2, -, -⟩ := h.inv_fn
    exact .fn _ _ _ _ _ l1 l2 (by simp) (by simp)
  · refine vr_scalar ?_ h
    unfold fnB at hs
    split at hs
    · rename_i f; exact absurd ⟨f, rfl⟩ hv
    · exact hs
theorem vr_plain {rl : Rl} {m m' : M} {v : AVal} {v' : Value} (hs : plainB v = true) (h : VR rl m v v') : VR rl m' v v' := by
  by_cases hv : ∃ cs, v = .agg cs
  · obtain ⟨cs, rfl⟩ := hv
    obtain ⟨cs', rfl, hl, h1⟩ := h.inv_agg
    exact .agg _ _ hl fun i u hu => vr_fnB (List.all_eq_true.1 hs u (List.mem_of_getElem? hu)) (h1 i u hu)
  · refine vr_fnB ?_ h
    unfold plainB at hs
    split at hs
    · rename_i cs; exact absurd ⟨cs, rfl⟩ hv
    · exact hs

theorem knownP_ok {E : Env} {call : Caller} (hc : CallOk E.bare call) {K : Nat → List AVal → Option AVal}
    (hK : ∀ f a v, K f a = some v → (∀ x ∈ a, plainB x = true) ∧ plainB v = true ∧ ∃ h' lw lp, call f a [] = some (v, h', lw, lp)) : CallOk E (knownS K) := by
  intro f args h u h2 lw2 lp2 hcl
  unfold knownS at hcl
  split at hcl
  · rename_i v hv
    obtain ⟨hs, hvs, h', lw, lp, h1⟩ := hK _ _ _ hv
    simp only [Option.some.injEq, Prod.mk.injEq] at hcl
    obtain ⟨rfl, rfl, rfl, rfl⟩ := hcl
    obtain ⟨c1, c2⟩ := hc _ _ _ _ _ _ _ h1
    refine ⟨c1, fun m w args' hr hl => ?_⟩
    have hr0 : HR E.bare [] [] w := ⟨hr.below, rfl, by simp, fun i b r K hl => by simp [Live] at hl, fun i j b b' r K K' hl => by simp [Live] at hl⟩
    refine Calls.mono (c2 [] w args' hr0 ⟨hl.1, fun i x hx => vr_plain (hs x (List.mem_of_getElem? hx)) (hl.2 i x hx)⟩) fun e w' hq => ?_
    obtain ⟨v', rfl, m', hvr, T⟩ := hq
    refine ⟨v', rfl, m, vr_plain hvs hvr, ?_⟩
    have keep : ∀ r, r < w.heap.size → w'.heap[r]? = w.heap[r]? := fun r hlt => T.keepo r hlt fun i b K hl => by simp [Live] at hl
    have lt : ∀ i b r K, Live m h i b r K → r < w.heap.size := fun i b r K hl => by
      exact hr.lt hl
    refine ⟨⟨[], by simp⟩, ⟨T.hr.below, hr.len, hr.real, fun i b r K hl => ?_, hr.inj⟩, T.size, Nat.le_refl _, Nat.le_refl _, fun i _ _ => ⟨rfl, fun b r K hl => keep r (lt _ _ _ _ hl)⟩,
      fun i _ _ b' hb => ⟨b', hb, rfl, ⟨rfl, rfl⟩, fun _ _ => .inr rfl⟩, fun r hlt _ => keep r hlt, fun i b r K hl _ => ⟨i, b, K, hl⟩⟩
    obtain ⟨hB, hc⟩ := hr.blk i b r K hl
    exact ⟨hB, by rw [keep r (lt _ _ _ _ hl)]; exact hc⟩
  · cases hcl


/-- numbers, cell by cell -/
def eq1 (c : AVal) (m : Int) : Bool := match c with
  | .i .i64 n => eqI n m
  | _ => false
theorem eq1_eq {c : AVal} {m : Int} (h : eq1 c m = true) : c = .i .i64 m := by
  unfold eq1 at h
  split at h
  · rw [eqI_eq] at h
    rw [eq_of_beq h]
  · cases h
def eqs : List AVal → List Int → Bool
  | [], [] => true
  | c :: cs, m :: z => cond (eq1 c m) (eqs cs z) false
  | _, _ => false
theorem eqs_eq : ∀ {cs : List AVal} {z : List Int}, eqs cs z = true → cs = z.map (AVal.i .i64)
  | [], [], _ => rfl
  | c :: cs, m :: z, h => by
    unfold eqs at h
    cases e : eq1 c m
    · rw [e] at h; cases h
    · rw [e] at h
      rw [eq1_eq e, eqs_eq (cs := cs) (z := z) h]; rfl
  | [], _ :: _, h => by cases h
  | _ :: _, [], h => by cases h
def lkp : List (Nat × Int) → Nat → Int
  | [], _ => 0
  | (k, v) :: l, i => cond (Nat.beq k i) v (lkp l i)
def ofNz (p : List (Nat × Int)) : List Int := (List.range 120).map (lkp p)
def look : List (List Int × List (Nat × Int)) → List AVal → Option AVal
  | [], _ => none
  | t :: T, cs => cond (eqs cs t.1) (some (.agg ((ofNz t.2).map (AVal.i .i64)))) (look T cs)
def Kp (T : List (List Int × List (Nat × Int))) (f : Nat) (args : List AVal) : Option AVal :=
  cond (Nat.beq f 22) (match args with
    | [.agg cs] => look T cs
    | _ => none) none
def isP (o : Option (AVal × Heap × Nat × Nat)) (p : List (Nat × Int)) : Bool := match o with
  | some (.agg cs, _) => eqs cs (ofNz p)
  | _ => false
theorem isP_eq {o : Option (AVal × Heap × Nat × Nat)} {p : List (Nat × Int)} (h : isP o p = true) : ∃ hp lw lp, o = some (.agg ((ofNz p).map (AVal.i .i64)), hp, lw, lp) := by
  unfold isP at h
  split at h
  · rename_i cs r
    obtain ⟨hp, lw, lp⟩ := r
    exact ⟨hp, lw, lp, by rw [eqs_eq h]⟩
  · cases h
theorem look_some : ∀ {T : List (List Int × List (Nat × Int))} {cs : List AVal} {v : AVal}, look T cs = some v → ∃ t ∈ T, cs = t.1.map (AVal.i .i64) ∧ v = .agg ((ofNz t.2).map (AVal.i .i64))
  | [], _, _, h => by cases h
  | t :: T, cs, v, h => by
    unfold look at h
    cases e : eqs cs t.1
    · rw [e] at h
      obtain ⟨t', h1, h2⟩ := look_some (T := T) (cs := cs) (v := v) h
      exact ⟨t', by simp [h1], h2⟩
    · rw [e] at h
      simp only [cond_true, Option.some.injEq] at h
      exact ⟨t, by simp, eqs_eq e, h.symm⟩
theorem Kp_some {T : List (List Int × List (Nat × Int))} {f : Nat} {a : List AVal} {v : AVal} (h : Kp T f a = some v) : f = 22 ∧ ∃ t ∈ T, a = [.agg (t.1.map (AVal.i .i64))] ∧ v = .agg ((ofNz t.2).map (AVal.i .i64)) := by
  unfold Kp at h
  cases e : Nat.beq f 22
  · rw [e] at h; cases h
  · rw [e] at h
    simp only [cond_true] at h
    split at h
    · obtain ⟨t, h1, h2, h3⟩ := look_some h
      exact ⟨Nat.eq_of_beq_eq_true e, t, h1, by rw [h2], h3⟩
    · cases h
theorem plain_ints : ∀ z : List Int, plainB (.agg (z.map (AVal.i .i64))) = true := fun z => by
  unfold plainB
  simp only
  rw [List.all_eq_true]
  intro x hx
  obtain ⟨n, -, rfl⟩ := List.mem_map.1 hx
  rfl
/-- what every line of a table wants -/
theorem Kp_ok {T : List (List Int × List (Nat × Int))} {call : Caller} (h : ∀ t ∈ T, ∃ hp lw lp, call 22 [.agg (t.1.map (AVal.i .i64))] [] = some (.agg ((ofNz t.2).map (AVal.i .i64)), hp, lw, lp)) :
    ∀ f a v, Kp T f a = some v → (∀ x ∈ a, plainB x = true) ∧ plainB v = true ∧ ∃ h' lw lp, call f a [] = some (v, h', lw, lp) := by
  intro f a v hK
  obtain ⟨rfl, t, ht, rfl, rfl⟩ := Kp_some hK
  refine ⟨fun x hx => ?_, plain_ints _, h t ht⟩
  simp only [List.mem_singleton] at hx
  rw [hx]; exact plain_ints _
abbrev T0 : List (List Int × List (Nat × Int)) := []
def T1 : List (List Int × List (Nat × Int)) := [([0, 0, 0, 0, 0, 0, 0, 0, 0, 0, 0, 0, 0, 0, 0, 0, 0, 0, 0, 0, 0, 0, 0, 0, 0, 0, 0, 0, 0], [(0, 1)]), ([1, 0, 1, 0, 0, 0, 0, 0, 0, 0, 0, 0, 0, 0, 0, 0, 0, 0, 0, 0, 0, 0, 0, 0, 0, 0, 0, 0, 0], [(1, 1)]), ([1, 2, 1, 0, 0, 0, 0, 0, 0, 0, 0, 0, 0, 0, 0, 0, 0, 0, 0, 0, 0, 0, 0, 0, 0, 0, 0, 0, 0], [(1, 1)]), ([1, 1, 1, 0, 0, 0, 0, 0, 0, 0, 0, 0, 0, 0, 0, 0, 0, 0, 0, 0, 0, 0, 0, 0, 0, 0, 0, 0, 0], [(8, 1)]), ([1, 0, 0, 0, 0, 0, 0, 0, 0, 0, 0, 0, 0, 0, 0, 0, 0, 0, 0, 0, 0, 0, 0, 0, 0, 0, 0, 0, 0], [(8, 1)])]
def T2 : List (List Int × List (Nat × Int)) := [([2, 0, 1, 1, 2, 0, 0, 0, 0, 0, 0, 0, 0, 0, 0, 0, 0, 0, 0, 0, 0, 0, 0, 0, 0, 0, 0, 0, 0], [(2, 1)]), ([2, 2, 1, 1, 2, 0, 0, 0, 0, 0, 0, 0, 0, 0, 0, 0, 0, 0, 0, 0, 0, 0, 0, 0, 0, 0, 0, 0, 0], [(1, 1), (8, 1)]), ([2, 0, 1, 0, 1, 0, 0, 0, 0, 0, 0, 0, 0, 0, 0, 0, 0, 0, 0, 0, 0, 0, 0, 0, 0, 0, 0, 0, 0], [(1, 1), (8, 1)])]
def T3 : List (List Int × List (Nat × Int)) := [([3, 0, 1, 1, 2, 2, 0, 0, 0, 0, 0, 0, 0, 0, 0, 0, 0, 0, 0, 0, 0, 0, 0, 0, 0, 0, 0, 0, 0], [(1, 1), (2, 1), (8, 1)]), ([2, 0, 1, 0, 1, 0, 0, 0, 0, 0, 0, 0, 0, 0, 0, 0, 0, 0, 0, 0, 0, 0, 0, 0, 0, 0, 0, 0, 0], [(1, 1), (8, 1)])]
abbrev FT (T : List (List Int × List (Nat × Int))) : Tab := ⟨F, knownS (Kp T)⟩
def reck (T : List (List Int × List (Nat × Int))) (g : List Int) : Option (AVal × Heap × Nat × Nat) := callA (FT T) [] (exec (FT T) [] 100) 22 [.agg (g.map (AVal.i .i64))] []
end Go.Proofs.Ytdjffnfjbeiomaa.T

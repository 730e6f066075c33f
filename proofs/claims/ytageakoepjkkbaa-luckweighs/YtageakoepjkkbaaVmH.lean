/- Aggregates that are built, and all operations that touch no memory in one word. -/
import Derived.Test.YtageakoepjkkbaaVmG
namespace Go.Vm
open Go.RowKit

/-- cells, one by one -/
def LR (rl : Rl) (m : M) (z : List AVal) (z' : Array Value) : Prop := z.length = z'.size ∧ ∀ i v, z[i]? = some v → VR rl m v (z'.getD i undef)

theorem VR.cells {rl : Rl} {m : M} {v : AVal} {v' : Value} (h : VR rl m v v') : LR rl m v.cells v'.cells := by
  have one : ∀ (v : AVal) (v' : Value), VR rl m v v' → LR rl m [v] #[v'] := fun v v' h => ⟨rfl, fun i u hu => by
    cases i with
    | zero => simp at hu; subst hu; exact h
    | succ i => simp at hu⟩
  cases h with
  | agg cs cs' hl h => exact ⟨hl, h⟩
  | b x => exact one _ _ (.b x)
  | i k n => exact one _ _ (.i k n)
  | s l => exact one _ _ (.s l)
  | pn => exact one _ _ .pn
  | p q a ha => exact one _ _ (.p q a ha)
  | nsl => exact one _ _ .nsl
  | slk q a len c ha => exact one _ _ (.slk q a len c ha)
  | slg b r K len hb hl => exact one _ _ (.slg b r K len hb hl)
  | sla q a len c ha hl => exact one _ _ (.sla q a len c ha hl)
  | esl o c => exact one _ _ (.esl o c)
  | mp b r K h => exact one _ _ (.mp b r K h)
  | yld b r K h => exact one _ _ (.yld b r K h)
  | fn f a c a' c' ha hc h1 h2 => exact one _ _ (.fn f a c a' c' ha hc h1 h2)
  | nfn => exact one _ _ .nfn
  | tup cs cs' hl h => exact one _ _ (.tup cs cs' hl h)
  | ifc ty v v' h => exact one _ _ (.ifc ty v v' h)
  | bm name v v' h => exact one _ _ (.bm name v v' h)

theorem LR.mono {rl : Rl} {m m' : M} (h : Mle m m') {z : List AVal} {z' : Array Value} (hz : LR rl m z z') : LR rl m' z z' :=
  ⟨hz.1, fun i v hv => (hz.2 i v hv).mono h⟩

theorem LR.set {rl : Rl} {m : M} {z : List AVal} {z' : Array Value} (hz : LR rl m z z') {off : Nat} {v : AVal} {v' : Value} (h : VR rl m v v') :
    LR rl m (z.set off v) (z'.setIfInBounds off v') := by
  refine ⟨by simp [hz.1], fun i u hu => ?_⟩
  rw [List.getElem?_set] at hu
  split at hu
  · split at hu
    · cases hu
      rename_i h1 h2
      subst h1
      have : off < z'.size := by rw [← hz.1]; exact h2
      simp [Array.getD_eq_getD_getElem?, this, h]
    · cases hu
  · rename_i h1
    have := hz.2 i u hu
    simpa [Array.getD_eq_getD_getElem?, Array.getElem?_setIfInBounds, h1] using this

theorem splice_sound {rl : Rl} {m : M} (o : Nat) : ∀ (cs : List AVal) (cs' : List Value) (k : Nat) (z : List AVal) (z' : Array Value), cs.length = cs'.length →
    (∀ i v, cs[i]? = some v → VR rl m v (cs'.getD i undef)) → LR rl m z z' →
    LR rl m (splice z (o + k) cs) ((cs'.zipIdx k).foldl (fun acc x => acc.setIfInBounds (o + x.2) x.1) z')
  | [], cs', k, z, z', hl, _, hz => by
    cases cs' with
    | nil => exact hz
    | cons => simp at hl
  | c :: cs, cs', k, z, z', hl, h, hz => by
    cases cs' with
    | nil => simp at hl
    | cons c' cs' =>
      simp only [splice, List.zipIdx_cons, List.foldl_cons]
      have := splice_sound o cs cs' (k + 1) (z.set (o + k) c) (z'.setIfInBounds (o + k) c') (by simpa using hl) (fun i v hv => by simpa using h (i + 1) v (by simpa using hv))
        (hz.set (by simpa using h 0 c (by simp)))
      exact this

theorem fill_sound {rl : Rl} {m : M} {place : Nat → Option (Nat × Nat)} : ∀ (ps : List ((Nat × Nat) × AVal)) (parts : List (Nat × Value)) (z z1 : List AVal) (z' : Array Value),
    ps.length = parts.length → (∀ (i : Nat) (p : (Nat × Nat) × AVal), ps[i]? = some p → ∃ q : Nat × Value, parts[i]? = some q ∧ place q.1 = some p.1 ∧ VR rl m p.2 q.2) → LR rl m z z' → fillA z ps = some z1 →
    ∃ z1', Instr.fill place z' parts = some z1' ∧ LR rl m z1 z1'
  | [], parts, z, z1, z', hl, _, hz, h => by
    cases parts with
    | nil => cases h; exact ⟨z', rfl, hz⟩
    | cons => simp at hl
  | p :: ps, parts, z, z1, z', hl, hp, hz, h => by
    cases parts with
    | nil => simp at hl
    | cons q parts =>
      obtain ⟨⟨off, size⟩, v⟩ := p
      obtain ⟨j, v'⟩ := q
      obtain ⟨q', e1, e2, e3⟩ := hp 0 ((off, size), v) (by simp)
      simp at e1; subst e1
      simp only at e2 e3
      simp only [fillA] at h
      split at h
      · rename_i hc
        obtain ⟨hc1, hc2⟩ := hc
        have hcell := e3.cells
        have hs : v'.cells.size = size := by rw [← hcell.1]; exact hc1
        have hz2 := splice_sound off v.cells v'.cells.toList 0 z z' (by rw [hcell.1]; simp) (fun i u hu => by
          have := hcell.2 i u hu
          simpa [Array.getD_eq_getD_getElem?, List.getD] using this) hz
        obtain ⟨z1', h1, h2⟩ := fill_sound ps parts _ z1 _ (by simpa using hl) (fun i p hi => by
          obtain ⟨q, e1, e2⟩ := hp (i + 1) p (by simpa using hi)
          exact ⟨q, by simpa using e1, e2⟩) hz2 h
        refine ⟨z1', ?_, h2⟩
        simp only [Instr.fill, e2]
        have hle : ¬ (v'.cells.size ≠ size ∨ off + v'.cells.size > z'.size) := by
          rw [hs, ← hz.1]; simp; omega
        rw [if_neg (by simpa using hle)]
        rw [← h1]
        congr 1
        rw [← Array.foldl_toList, Array.toList_zipIdx]
      · cases h

section
variable {P : Program} {a : Act} {o : Oper} {rl : Rl} {m : M} {t : Tr} {v : AVal}

theorem cparts_sound {place : Nat → Option (Nat × Nat)} : ∀ {l : List (Nat × Operand)} {ps : List ((Nat × Nat) × AOpd)}, cparts place l = some ps → TRk rl m t a (ps.flatMap fun p => opdT p.2) →
    ps.length = l.length ∧ ∀ (i : Nat) (p : (Nat × Nat) × AVal), (ps.map fun x => (x.1, opd t x.2))[i]? = some p → ∃ q : Nat × Value, (l.map fun x => (x.1, a.eval x.2))[i]? = some q ∧ place q.1 = some p.1 ∧ VR rl m p.2 q.2
  | [], ps, h, _ => by cases h; exact ⟨rfl, by simp⟩
  | (j, x) :: l, ps, h, ht => by
    unfold cparts at h
    split at h
    · rename_i p x' ps' h1 h2 h3
      cases h
      obtain ⟨k1, k2⟩ := cparts_sound h3 (ht.mem fun n hn => by simp only [List.flatMap_cons, List.mem_append]; exact .inr hn)
      refine ⟨by simp [k1], fun i p hp => ?_⟩
      cases i with
      | zero =>
        simp at hp; subst hp
        exact ⟨(j, a.eval x), by simp, h1, copd_sound h2 (ht.mem fun n hn => by simp only [List.flatMap_cons, List.mem_append]; exact .inl hn)⟩
      | succ i =>
        obtain ⟨q, e1, e2⟩ := k2 i p (by simpa using hp)
        exact ⟨q, by simpa using e1, e2⟩
    · cases h

theorem mapM_sizes (fs : List Field) (h : ∀ f ∈ fs, (csize P f.type).isSome = true) (w : World) :
    (fs.mapM (m := Sem) fun f => do pure (f.offset, ← sizeOf f.type)).run P w = .ok (fs.map fun f => (f.offset, P.cellsOf f.type)) w := by
  induction fs with
  | nil => rfl
  | cons f fs ih =>
    have hf := h f (by simp)
    cases hc : csize P f.type with
    | none => simp [hc] at hf
    | some s =>
      simp only [List.mapM_cons, Sem.run_bind, csize_sound hc, Result.andThen_ok, Sem.run_pure, ih (fun g hg => h g (by simp [hg])), List.map_cons, csize_cells hc]

theorem pur_build {ty : TypeId} {parts : Array (Nat × Operand)} {zs : List AVal} {ps : List ((Nat × Nat) × AOpd)} {d : TypeDesc} {place : Nat → Option (Nat × Nat)} (ho : o.op = .build ty parts)
    (hz : czero P ty = some zs) (hu : P.underlying ty = some d)
    (hd : (∃ fs, d = .struct fs ∧ (∀ f ∈ fs.toList, (csize P f.type).isSome = true) ∧ ∀ i p, place i = some p → (fs.toList.map fun f => (f.offset, P.cellsOf f.type))[i]? = some p) ∨
      ∃ n e s, d = .array n e ∧ csize P e = some s ∧ ∀ i p, place i = some p → p = (i * s, s))
    (hp : cparts place parts.toList = some ps) (ht : TRk rl m t a (ps.flatMap fun p => opdT p.2)) (hv : ev_build t zs ps = some v) : Pur P a o rl m v := by
  unfold ev_build at hv
  rw [Option.map_eq_some_iff] at hv
  obtain ⟨z1, hf, rfl⟩ := hv
  obtain ⟨i0, z0, hi, hz0, hcv, hzl⟩ := czero_sound hz
  obtain ⟨k1, k2⟩ := cparts_sound hp ht
  have hz' : LR rl m zs z0.cells := by
    obtain ⟨c1, c2⟩ := cvals_sound hcv rl m
    exact ⟨by simp [c1], fun i u hu => by simpa [Array.getD_eq_getD_getElem?, List.getD] using c2 i u hu⟩
  have hzr := run_zero hi hz0
  have he : (parts.map fun x => (x.1, a.eval x.2)).toList = parts.toList.map fun x => (x.1, a.eval x.2) := by simp
  rcases hd with ⟨fs, rfl, hall, hpl⟩ | ⟨n, e, s, rfl, hs, hpl⟩
  · obtain ⟨z1', f1, f2⟩ := fill_sound (place := fun i => (fs.toList.map fun f => (f.offset, P.cellsOf f.type))[i]?) _ (parts.toList.map fun x => (x.1, a.eval x.2)) zs z1 z0.cells (by simp [k1]) (fun i p hp => by
      obtain ⟨q, q1, q2, q3⟩ := k2 i p hp
      exact ⟨q, q1, hpl _ _ q2, q3⟩) hz' hf
    refine ⟨.agg z1', fun w => ?_, .agg _ _ f2.1 f2.2⟩
    have hm : (fs.mapM (m := Sem) fun f => do pure (f.offset, ← sizeOf f.type)).run P w = .ok (fs.toList.map fun f => (f.offset, P.cellsOf f.type)).toArray w := by
      rcases fs with ⟨fl⟩
      rw [List.mapM_toArray]
      simp only [Sem.run_map]
      rw [mapM_sizes fl hall w]; rfl
    simp only [execOp, ho, Instr.build, Sem.run_bind, hzr, run_und hu, Result.andThen_ok, hm, List.getElem?_toArray]
    rw [he, f1]
    rfl
  · obtain ⟨z1', f1, f2⟩ := fill_sound (place := fun i => some (i * s, s)) _ (parts.toList.map fun x => (x.1, a.eval x.2)) zs z1 z0.cells (by simp [k1]) (fun i p hp => by
      obtain ⟨q, q1, q2, q3⟩ := k2 i p hp
      exact ⟨q, q1, by rw [hpl _ _ q2], q3⟩) hz' hf
    refine ⟨.agg z1', fun w => ?_, .agg _ _ f2.1 f2.2⟩
    simp only [execOp, ho, Instr.build, Sem.run_bind, hzr, run_und hu, Result.andThen_ok, csize_sound hs]
    rw [he, f1]
    rfl

end
end Go.Vm

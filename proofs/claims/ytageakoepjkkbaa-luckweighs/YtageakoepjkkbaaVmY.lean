/- Regions whose order is open: what an operation's shape says; the stores and the new variables in the text's order. -/
import Derived.Test.YtageakoepjkkbaaVmX
namespace Go.Vm
open Go.RowKit

def Shape (P : Program) (op : Op) : Kind → Prop
  | .ld one n x' => ∃ ty x ag, op = .load ty x ∧ cagg P ty = some ag ∧ one = !ag ∧ csize P ty = some n ∧ copd x = some x'
  | .al e z => op = .alloc e ∧ czero P e = some z
  | .st n x' y' => ∃ ty x y, op = .store ty x y ∧ csize P ty = some n ∧ copd x = some x' ∧ copd y = some y'
  | _ => True

theorem compK_shape {P : Program} {op : Op} {k : Kind} (hk : compK P op = some k) : Shape P op k := by
  by_cases hp : pureOp op = true
  · obtain ⟨k', rfl⟩ := compK_pure hp hk
    trivial
  · cases op <;> simp only [pureOp, not_true_eq_false] at hp
    case convert src dst x =>
      rcases conv_cases hk with ⟨k', rfl⟩ | ⟨e, x', rfl, hs1, hs2, hs3, hx⟩
      · trivial
      · trivial
    case load ty x =>
      simp only [compK, bind, Option.bind_eq_some_iff, Option.some.injEq] at hk
      obtain ⟨ag, hag, n, hn, x', hx, rfl⟩ := hk
      exact ⟨ty, x, ag, rfl, hag, rfl, hn, hx⟩
    case alloc e =>
      simp only [compK, Option.map_eq_some_iff] at hk
      obtain ⟨z, hz, rfl⟩ := hk
      exact ⟨rfl, hz⟩
    case box e x =>
      simp only [compK, bind, Option.bind_eq_some_iff, Option.some.injEq] at hk
      obtain ⟨n, hn, x', hx, rfl⟩ := hk
      trivial
    case buildSlice ty n parts =>
      simp only [compK, c_bsl] at hk
      split at hk
      · simp only [bind, Option.bind_eq_some_iff] at hk
        obtain ⟨z, hz, s, hsz, ps, hps, hk⟩ := hk
        split at hk
        · cases hk; trivial
        · cases hk
      · cases hk
    case store ty x y =>
      simp only [compK, bind, Option.bind_eq_some_iff, Option.some.injEq] at hk
      obtain ⟨n, hn, x', hx, y', hy, rfl⟩ := hk
      exact ⟨ty, x, y, rfl, hn, hx, hy⟩
    case makeSlice ty l c =>
      simp only [compK, c_mk] at hk
      split at hk
      · simp only [bind, Option.bind_eq_some_iff] at hk
        obtain ⟨s, hsz, hk⟩ := hk
        split at hk
        · cases hk
        · simp only [Option.bind_eq_some_iff, Option.some.injEq] at hk
          obtain ⟨by_, hby, z, hz, l', hl, c', hc, rfl⟩ := hk
          trivial
      · cases hk
    case makeMap t r =>
      simp only [compK, c_mkm] at hk
      split at hk
      · cases hk; trivial
      · cases hk
    case lookup t x k ok =>
      simp only [compK, c_mlk] at hk
      split at hk
      · split at hk
        · simp only [bind, Option.bind_eq_some_iff, Option.some.injEq] at hk
          obtain ⟨z, hz, x', hx, k', hkk, rfl⟩ := hk
          trivial
        · cases hk
      · cases hk
    case mapUpdate t x k v =>
      simp only [compK, c_mup] at hk
      split at hk
      · split at hk
        · simp only [bind, Option.bind_eq_some_iff, Option.some.injEq] at hk
          obtain ⟨x', hx, k', hkk, v', hvv, rfl⟩ := hk
          trivial
        · cases hk
      · cases hk
    case call c =>
      obtain ⟨cal, args, ats⟩ := c
      simp only [compK, c_call] at hk
      split at hk
      · simp only [c_len] at hk
        split at hk
        · split at hk
          · split at hk
            · simp only [bind, Option.bind_eq_some_iff, Option.some.injEq] at hk; obtain ⟨_, _, rfl⟩ := hk; trivial
            · simp only [bind, Option.bind_eq_some_iff, Option.some.injEq] at hk; obtain ⟨_, _, rfl⟩ := hk; trivial
            · cases hk
          · cases hk
        · cases hk
      · simp only [c_app] at hk
        split at hk
        · split at hk
          · split at hk
            · split at hk
              · simp only [bind, Option.bind_eq_some_iff] at hk
                obtain ⟨s, hsz, hk⟩ := hk
                split at hk
                · cases hk
                · simp only [Option.bind_eq_some_iff, Option.some.injEq] at hk
                  obtain ⟨by_, hby, z, hz, x', hx, y', hy, rfl⟩ := hk
                  trivial
              · cases hk
            · cases hk
          · cases hk
        · cases hk
      · simp only [c_mx] at hk
        split at hk
        · simp only [bind, Option.bind_eq_some_iff, Option.some.injEq] at hk; obtain ⟨_, _, _, _, rfl⟩ := hk; trivial
        · simp only [bind, Option.bind_eq_some_iff, Option.some.injEq] at hk; obtain ⟨_, _, _, _, _, _, rfl⟩ := hk; trivial
        · cases hk
      · simp only [c_mx] at hk
        split at hk
        · simp only [bind, Option.bind_eq_some_iff, Option.some.injEq] at hk; obtain ⟨_, _, _, _, rfl⟩ := hk; trivial
        · simp only [bind, Option.bind_eq_some_iff, Option.some.injEq] at hk; obtain ⟨_, _, _, _, _, _, rfl⟩ := hk; trivial
        · cases hk
      · simp only [c_cpy] at hk
        split at hk
        · split at hk
          · split at hk
            · split at hk
              · simp only [bind, Option.bind_eq_some_iff, Option.some.injEq] at hk; obtain ⟨_, _, _, _, _, _, rfl⟩ := hk; trivial
              · cases hk
            · cases hk
          · cases hk
        · cases hk
      · simp only [bind, Option.bind_eq_some_iff, Option.some.injEq] at hk
        obtain ⟨as, has, rfl⟩ := hk
        trivial
      · simp only [bind, Option.bind_eq_some_iff, Option.some.injEq] at hk
        obtain ⟨as, has, rfl⟩ := hk
        trivial
      · simp only [bind, Option.bind_eq_some_iff, Option.some.injEq] at hk
        obtain ⟨_, _, as, has, rfl⟩ := hk
        trivial
      · cases hk
    all_goals (simp [compK] at hk)

theorem ckOk_mem {ro : List ABlk} {h : Heap} {q : Loc} {one : Bool} {k : IntKind} {n : Int} {v : AVal} : ∀ {l : List ((Loc × List AVal) × AVal)}, ckOk ro h l = true → ((q, [.b one, .i k n]), v) ∈ l →
    rd ro h one n.toNat q = some v
  | [], _, hm => by cases hm
  | x :: l, h1, hm => by
    unfold ckOk at h1
    split at h1
    · cases ‹_ :: _ = []›
    · rename_i q' one' k' n' v' l' e
      cases e
      rw [Bool.and_eq_true] at h1
      rcases List.mem_cons.1 hm with hm | hm
      · cases hm
        have h2 := h1.1
        split at h2
        · rename_i u hu
          rw [sameA_eq _ _ h2] at hu; exact hu
        · cases h2
      · exact ckOk_mem h1.2 hm
    · cases h1

section
variable {ds : List Deferred} {E : Env} {call : Caller} {ops : Array Oper} {l : List AOp} {ms : List Nat} {nt : Nat} {m : M} {st : St} {w0 : World} {σ : Nat → AnyS} {val : Nat → AVal} {η : Nat → St} {flg : Nat → Bool}
variable (R : Reg E call ops l ms nt m st w0 σ val η flg)
include R

theorem Reg.ws (i : Nat) (x : AOp) (hx : l[i]? = some x) : (hardK x.k = true ∧ ∃ q vs, (σ (i + 1)).ws = (q, vs) :: (σ i).ws) ∨ (hardK x.k = false ∧ (σ (i + 1)).ws = (σ i).ws) := by
  have hs := R.step i x hx
  have hg := R.guards i x hx
  cases hh : hardK x.k
  · by_cases ha : ∃ e z, x.k = .al e z
    · obtain ⟨e, z, hk⟩ := ha
      have hgn : x.g = none := hg.2 (.inr (by rw [hk]; rfl))
      exact .inr ⟨rfl, (step_al hs hk hgn).2.2⟩
    · exact .inr ⟨rfl, (step_soft hs (fun e z h => ha ⟨e, z, h⟩) hh).2⟩
  · have hgn : x.g = none := hg.2 (.inl hh)
    cases hk : x.k <;> rw [hk] at hh <;> try (cases hh)
    obtain ⟨q, _, _, _, _, e⟩ := step_st hs hk hgn
    exact .inl ⟨rfl, q, _, e⟩

theorem Reg.hp (i : Nat) (x : AOp) (hx : l[i]? = some x) : (∃ e z, x.k = .al e z ∧ (σ (i + 1)).h = (σ i).h ++ [some (blkOf e z)]) ∨ ((∀ e z, x.k ≠ .al e z) ∧ (σ (i + 1)).h = (σ i).h) := by
  have hs := R.step i x hx
  have hg := R.guards i x hx
  by_cases ha : ∃ e z, x.k = .al e z
  · obtain ⟨e, z, hk⟩ := ha
    have hgn : x.g = none := hg.2 (.inr (by rw [hk]; rfl))
    exact .inl ⟨e, z, hk, (step_al hs hk hgn).2.1⟩
  · refine .inr ⟨fun e z h => ha ⟨e, z, h⟩, ?_⟩
    cases hh : hardK x.k
    · exact (step_soft hs (fun e z h => ha ⟨e, z, h⟩) hh).1
    · have hgn : x.g = none := hg.2 (.inl hh)
      cases hk : x.k <;> rw [hk] at hh <;> try (cases hh)
      obtain ⟨q, _, _, _, e, _⟩ := step_st hs hk hgn
      exact e

theorem Reg.ws_grow {i k : Nat} (h1 : i ≤ k) (h2 : k ≤ l.length) : ∃ x, (σ k).ws = x ++ (σ i).ws :=
  grow_pre (f := fun i => (σ i).ws) (n := l.length) (fun i hi => by
    rcases R.ws i _ (List.getElem?_eq_getElem hi) with ⟨_, q, vs, e⟩ | ⟨_, e⟩
    · exact ⟨[(q, vs)], e⟩
    · exact ⟨[], e⟩) i k h1 h2

theorem Reg.hp_grow {i k : Nat} (h1 : i ≤ k) (h2 : k ≤ l.length) : ∃ x, (σ k).h = (σ i).h ++ x :=
  grow_app (f := fun i => (σ i).h) (n := l.length) (fun i hi => by
    rcases R.hp i _ (List.getElem?_eq_getElem hi) with ⟨e, z, _, e⟩ | ⟨_, e⟩
    · exact ⟨_, e⟩
    · exact ⟨[], by simpa using e⟩) i k h1 h2

theorem Reg.ck_grow {i k : Nat} (h1 : i ≤ k) (h2 : k ≤ l.length) : ∃ x, (σ k).ck = x ++ (σ i).ck :=
  grow_pre (f := fun i => (σ i).ck) (n := l.length) (fun i hi => step_ck (R.step i _ (List.getElem?_eq_getElem hi))) i k h1 h2

theorem Reg.ws_cover {k c : Nat} (hk : k ≤ l.length) (hc : c < (σ k).ws.length) : ∃ j x, j < k ∧ l[j]? = some x ∧ hardK x.k = true ∧ (σ j).ws.length = c := by
  obtain ⟨j, h1, ⟨x, h2, h3⟩, h4⟩ := grow_cover (f := fun i => (σ i).ws) (P := fun i => ∃ x, l[i]? = some x ∧ hardK x.k = true) (n := l.length) (fun i hi => by
    rcases R.ws i _ (List.getElem?_eq_getElem hi) with ⟨h, q, vs, e⟩ | ⟨_, e⟩
    · exact .inr ⟨⟨_, List.getElem?_eq_getElem hi, h⟩, by simp [e]⟩
    · exact .inl (by simp [e])) k hk c (by simp [R.s0]) hc
  exact ⟨j, x, h1, h2, h3, h4⟩

theorem Reg.hp_cover {p : Nat} (h0 : st.h.length ≤ p) (hc : p < (σ l.length).h.length) : ∃ j x e z, l[j]? = some x ∧ x.k = .al e z ∧ (σ j).h.length = p ∧ (σ l.length).h[p]? = some (some (blkOf e z)) := by
  obtain ⟨j, h1, ⟨x, e, z, h2, h3⟩, h4⟩ := grow_cover (f := fun i => (σ i).h) (P := fun i => ∃ x e z, l[i]? = some x ∧ x.k = .al e z) (n := l.length) (fun i hi => by
    rcases R.hp i _ (List.getElem?_eq_getElem hi) with ⟨e, z, h, e'⟩ | ⟨_, e⟩
    · exact .inr ⟨⟨_, e, z, List.getElem?_eq_getElem hi, h⟩, by simp [e']⟩
    · exact .inl (by simp [e])) l.length (Nat.le_refl _) p (by simpa [R.s0] using h0) hc
  refine ⟨j, x, e, z, h2, h3, h4, ?_⟩
  rcases R.hp j x h2 with ⟨e', z', hk, he⟩ | ⟨hn, _⟩
  · rw [h3] at hk; cases hk
    obtain ⟨y, hy⟩ := R.hp_grow (i := j + 1) (k := l.length) (by omega) (Nat.le_refl _)
    have h5 : (σ j).h.length = p := h4
    rw [hy, he, List.append_assoc, List.getElem?_append_right (by omega)]
    simp [h5]
  · exact absurd h3 (hn e z)

theorem Reg.al_ne {j k : Nat} {x y : AOp} {e e' : Nat} {z z' : List AVal} (hx : l[j]? = some x) (hk : x.k = .al e z) (hy : l[k]? = some y) (hk' : y.k = .al e' z') (hne : j ≠ k) : (σ j).h.length ≠ (σ k).h.length := by
  have lt : ∀ {j k : Nat} {x : AOp} {e : Nat} {z : List AVal}, l[j]? = some x → x.k = .al e z → j < k → k ≤ l.length → (σ j).h.length < (σ k).h.length := by
    intro j k x e z hx hk hjk hkl
    rcases R.hp j x hx with ⟨e', z', _, he⟩ | ⟨hn, _⟩
    · obtain ⟨y, hy⟩ := R.hp_grow (i := j + 1) (k := k) (by omega) hkl
      rw [hy, he]; simp only [List.length_append, List.length_singleton]; omega
    · exact absurd hk (hn e z)
  have hjl : j < l.length := (List.getElem?_eq_some_iff.1 hx).1
  have hkl : k < l.length := (List.getElem?_eq_some_iff.1 hy).1
  rcases Nat.lt_or_ge j k with h | h
  · have := lt hx hk h (by omega); omega
  · have := lt hy hk' (by omega : k < j) (by omega); omega

theorem Reg.st_ne {j k : Nat} {x y : AOp} (hx : l[j]? = some x) (hk : hardK x.k = true) (hy : l[k]? = some y) (hk' : hardK y.k = true) (hne : j ≠ k) : (σ j).ws.length ≠ (σ k).ws.length := by
  have lt : ∀ {j k : Nat} {x : AOp}, l[j]? = some x → hardK x.k = true → j < k → k ≤ l.length → (σ j).ws.length < (σ k).ws.length := by
    intro j k x hx hk hjk hkl
    rcases R.ws j x hx with ⟨_, q, vs, he⟩ | ⟨hn, _⟩
    · obtain ⟨y, hy⟩ := R.ws_grow (i := j + 1) (k := k) (by omega) hkl
      rw [hy, he]; simp only [List.length_append, List.length_cons]; omega
    · rw [hk] at hn; cases hn
  have hjl : j < l.length := (List.getElem?_eq_some_iff.1 hx).1
  have hkl : k < l.length := (List.getElem?_eq_some_iff.1 hy).1
  rcases Nat.lt_or_ge j k with h | h
  · have := lt hx hk h (by omega); omega
  · have := lt hy hk' (by omega : k < j) (by omega); omega

/-- the store that an operation puts off -/
theorem Reg.ws_at {j : Nat} {x : AOp} (hx : l[j]? = some x) {q : Loc} {vs : List AVal} (he : (σ (j + 1)).ws = (q, vs) :: (σ j).ws) : (σ l.length).ws.reverse[(σ j).ws.length]? = some (q, vs) := by
  have hjl : j < l.length := (List.getElem?_eq_some_iff.1 hx).1
  obtain ⟨y, hy⟩ := R.ws_grow (i := j + 1) (k := l.length) (by omega) (Nat.le_refl _)
  rw [hy, he]
  simp

end
end Go.Vm

/- Maps whose keys are strings: made, asked, written. -/
import Derived.Test.YtageakoepjkkbaaVmN
import Derived.MapKept
namespace Go.Vm
open Go.RowKit

section
variable {E : Env} {m : M} {h : Heap} {w : World}

/-- a new block, of whatever kind -/
theorem HR.newO (hE : E.Ok) (hr : HR E m h w) {K : Nat} {b0 : ABlk} {ob : Obj} (hb0 : ∀ m', Mle m m' → BlkR E m' b0 K (some ob)) (lw lp : Nat) :
    Tn E m h lw lp w (m ++ [some (w.heap.size, K)]) (h ++ [some b0]) lw lp (w.alloc ob) := by
  have hsz := hr.below.size
  have hBs : E.B ≤ w.heap.size := Nat.le_trans hE.hB hsz
  have hold : ∀ r, r < w.heap.size → (w.alloc ob).heap[r]? = w.heap[r]? := fun r h => Below.heap_alloc _ _ _ h
  have hcases : ∀ i b r K', Live (m ++ [some (w.heap.size, K)]) (h ++ [some b0]) i b r K' → Live m h i b r K' ∨ (i = h.length ∧ b = b0 ∧ r = w.heap.size ∧ K' = K) := by
    intro i b r K' ⟨h1, h2⟩
    rcases Nat.lt_or_ge i h.length with hi | hi
    · rw [List.getElem?_append_left hi] at h1
      rw [List.getElem?_append_left (by rw [hr.len]; exact hi)] at h2
      exact .inl ⟨h1, h2⟩
    · rw [List.getElem?_append_right hi] at h1
      rw [List.getElem?_append_right (by rw [hr.len]; exact hi), hr.len] at h2
      have : i - h.length = 0 := by
        rcases Nat.eq_zero_or_pos (i - h.length) with h0 | h0
        · exact h0
        · rw [List.getElem?_eq_none (by simp; omega)] at h1; cases h1
      rw [this] at h1 h2
      simp at h1 h2
      exact .inr ⟨by omega, h1.symm, h2.1.symm, h2.2.symm⟩
  have mle : Mle m (m ++ [some (w.heap.size, K)]) := Mle.app _ _
  refine ⟨⟨_, rfl⟩, ⟨hr.below.alloc hBs _, by simp [hr.len], ?_, ?_, ?_⟩, by simp, Nat.le_refl _, Nat.le_refl _, ?_, ?_, ?_, ?_⟩
  · intro i b hb
    rcases Nat.lt_or_ge i h.length with hi | hi
    · rw [List.getElem?_append_left hi] at hb
      obtain ⟨r, K', hm⟩ := hr.real i b hb
      exact ⟨r, K', mle _ _ hm⟩
    · have : i = h.length := by
        rw [List.getElem?_append_right hi] at hb
        rcases Nat.eq_zero_or_pos (i - h.length) with h0 | h0
        · omega
        · rw [List.getElem?_eq_none (by simp; omega)] at hb; cases hb
      subst this
      exact ⟨w.heap.size, K, by rw [← hr.len]; simp⟩
  · intro i b r K' hb
    rcases hcases i b r K' hb with hb | ⟨rfl, rfl, rfl, rfl⟩
    · obtain ⟨h0, h1⟩ := hr.blk i b r K' hb
      exact ⟨h0, by rw [hold r (hr.lt hb)]; exact h1.mono mle⟩
    · refine ⟨hBs, ?_⟩
      have e : (w.alloc ob).heap[w.heap.size]? = some ob := by show (w.heap.push _)[w.heap.size]? = _; rw [Array.getElem?_push_size]
      rw [e]
      exact hb0 _ mle
  · intro i j b b' r K1 K2 h1 h2
    rcases hcases _ _ _ _ h1 with k1 | ⟨e1, -, e2, -⟩
    · rcases hcases _ _ _ _ h2 with k2 | ⟨-, -, e3, -⟩
      · exact hr.inj _ _ _ _ _ _ _ k1 k2
      · have := hr.lt k1; omega
    · rcases hcases _ _ _ _ h2 with k2 | ⟨e3, -, -, -⟩
      · have := hr.lt k2; omega
      · rw [e1, e3]
  · intro i hi hil
    refine ⟨List.getElem?_append_left hil, fun b r K' hb => hold r (hr.lt hb)⟩
  · intro i hi hil b' hb'
    rw [List.getElem?_append_left hil] at hb'
    exact ⟨b', hb', rfl, ⟨rfl, rfl⟩, fun _ _ => .inr rfl⟩
  · intro r hrs _
    exact hold r hrs
  · intro i b r K' hb hrs
    rcases hcases _ _ _ _ hb with hb | ⟨rfl, rfl, rfl, rfl⟩
    · exact ⟨_, _, _, hb⟩
    · omega

/-- a block written anew, of whatever kind -/
theorem HR.setO (hr : HR E m h w) {i : Nat} {b b' : ABlk} {r K : Nat} {ob : Obj} {w' : World} (hl : Live m h i b r K) (hw' : w' = { w with heap := w.heap.setIfInBounds r ob })
    (hb : BlkR E m b' K (some ob)) (he : b'.e = b.e) (hn : b'.n = b.n) (hz : b'.n = 0) (hfx : b'.fix = b.fix) (lw lp : Nat) : Tn E m h lw lp w m (h.set i (some b')) (min lw i) lp w' := by
  obtain ⟨hB, hbk⟩ := hr.blk i b r K hl
  have hrlt := hr.lt hl
  have hil := hl.lt
  have hget : w'.heap[r]? = some ob := by rw [hw']; simp [hrlt]
  have hne' : ∀ r', r ≠ r' → w'.heap[r']? = w.heap[r']? := fun r' hne => by rw [hw']; simp [hne]
  have hsize : w'.heap.size = w.heap.size := by rw [hw']; simp
  have other : ∀ j b0 r0 K0, Live m (h.set i (some b')) j b0 r0 K0 → (j = i ∧ b0 = b' ∧ r0 = r ∧ K0 = K) ∨ (j ≠ i ∧ Live m h j b0 r0 K0) := by
    intro j b0 r0 K0 ⟨h1, h2⟩
    rw [List.getElem?_set] at h1
    split at h1
    · rename_i hij
      subst hij
      have h1' : b' = b0 := by simpa [hil] using h1
      rw [hl.2] at h2
      have h2' : r = r0 ∧ K = K0 := by simpa using h2
      exact .inl ⟨rfl, h1'.symm, h2'.1.symm, h2'.2.symm⟩
    · rename_i hij
      exact .inr ⟨fun e => hij e.symm, h1, h2⟩
  refine ⟨⟨[], by simp⟩, ⟨?_, by simp [hr.len], ?_, ?_, ?_⟩, by rw [hsize]; exact Nat.le_refl _, Nat.min_le_left _ _, Nat.le_refl _, ?_, ?_, ?_, ?_⟩
  · refine ⟨by rw [hw']; exact hr.below.os, by rw [hw']; exact hr.below.tape, by rw [hw']; exact hr.below.output, by rw [hsize]; exact hr.below.size, fun k hk => ?_⟩
    rw [hne' k (by omega)]
    exact hr.below.block k hk
  · intro j b0 hb0
    rw [List.getElem?_set] at hb0
    split at hb0
    · rename_i hij
      subst hij
      exact ⟨r, K, hl.2⟩
    · exact hr.real j b0 hb0
  · intro j b0 r0 K0 hb0
    rcases other _ _ _ _ hb0 with ⟨rfl, rfl, rfl, rfl⟩ | ⟨hne, hb0⟩
    · exact ⟨hB, by rw [hget]; exact hb⟩
    · obtain ⟨g0, gb⟩ := hr.blk _ _ _ _ hb0
      have hrr : r ≠ r0 := fun e => hne (hr.inj _ _ _ _ _ _ _ hb0 (e ▸ hl))
      exact ⟨g0, by rw [hne' _ hrr]; exact gb⟩
  · intro j1 j2 b1 b2 r0 K1 K2 h1 h2
    rcases other _ _ _ _ h1 with ⟨e1, -, e2, -⟩ | ⟨n1, k1⟩
    · rcases other _ _ _ _ h2 with ⟨e3, -, -, -⟩ | ⟨n2, k2⟩
      · rw [e1, e3]
      · rw [e1]; subst e2; exact hr.inj _ _ _ _ _ _ _ hl k2
    · rcases other _ _ _ _ h2 with ⟨e3, -, e4, -⟩ | ⟨n2, k2⟩
      · rw [e3]; subst e4; exact hr.inj _ _ _ _ _ _ _ k1 hl
      · exact hr.inj _ _ _ _ _ _ _ k1 k2
  · intro j hj hjl
    have hne : i ≠ j := by omega
    refine ⟨List.getElem?_set_ne hne, fun b0 r0 K0 hb0 => ?_⟩
    have hrr : r ≠ r0 := fun e => hne (hr.inj _ _ _ _ _ _ _ (e ▸ hl) hb0)
    exact hne' _ hrr
  · intro j hj hjl b0 hb0
    by_cases hij : i = j
    · subst hij
      rw [List.getElem?_set_self hil] at hb0
      cases hb0
      exact ⟨b, hl.1, he, ⟨hn, hfx⟩, fun j hj => by omega⟩
    · rw [List.getElem?_set_ne hij] at hb0
      exact ⟨b0, hb0, rfl, ⟨rfl, rfl⟩, fun _ _ => .inr rfl⟩
  · intro r0 _ hno
    exact hne' _ fun e => hno i b K (e ▸ hl)
  · intro j b0 r0 K0 hb0 _
    rcases other _ _ _ _ hb0 with ⟨rfl, -, rfl, -⟩ | ⟨-, hb0⟩
    · exact ⟨_, b, K, hl⟩
    · exact ⟨_, _, _, hb0⟩

/- the entries -/
theorem eqL_iff : ∀ a b : List UInt8, eqL a b = true ↔ a = b
  | [], [] => by simp [eqL]
  | [], _ :: _ => by simp [eqL]
  | _ :: _, [] => by simp [eqL]
  | a :: x, b :: y => by
    unfold eqL
    cases hb : Nat.beq a.toNat b.toNat with
    | false =>
      have : a ≠ b := fun e => by rw [e, Nat.beq_refl] at hb; cases hb
      simp [this]
    | true =>
      have : a = b := UInt8.toNat_inj.1 (Nat.eq_of_beq_eq_true hb)
      simp [this, eqL_iff x y]
theorem str_inj {a b : List UInt8} (h : Value.string ⟨a.toArray⟩ = .string ⟨b.toArray⟩) : a = b := by
  simpa using h
theorem MapR.cons {rl : Rl} {s : List UInt8} {v : AVal} {L : List (List UInt8 × AVal)} {es : List MapEntry} (h : MapR rl ((s, v) :: L) es) : ∃ x es', es = x :: es' ∧ x.key = .string ⟨s.toArray⟩ ∧ v.scalar = true ∧ VR rl [] v x.val ∧ MapR rl L es' := by
  obtain ⟨hlen, hget⟩ := h
  cases es with
  | nil => simp at hlen
  | cons x es =>
    obtain ⟨x', h1, h2, h3, h4⟩ := hget 0 s v rfl
    simp at h1
    subst h1
    exact ⟨_, es, rfl, h2, h3, h4, by simpa using hlen, fun i s' v' hi => by simpa using hget (i + 1) s' v' (by simpa using hi)⟩
theorem MapR.mk {rl : Rl} {s : List UInt8} {v : AVal} {L : List (List UInt8 × AVal)} {x : MapEntry} {es : List MapEntry} (h1 : x.key = .string ⟨s.toArray⟩) (h2 : v.scalar = true) (h3 : VR rl [] v x.val) (h : MapR rl L es) : MapR rl ((s, v) :: L) (x :: es) :=
  ⟨by simp [h.1], fun i s' v' hi => by
    cases i with
    | zero => simp at hi; obtain ⟨rfl, rfl⟩ := hi; exact ⟨x, rfl, h1, h2, h3⟩
    | succ i => simpa using h.2 i s' v' (by simpa using hi)⟩
theorem MapR.keys {rl : Rl} {L : List (List UInt8 × AVal)} {es : List MapEntry} (h : MapR rl L es) : ∀ x ∈ es, MapKept.IsKey .string x.key := by
  intro x hx
  obtain ⟨i, hi, rfl⟩ := List.getElem_of_mem hx
  obtain ⟨y, h1, h2, -⟩ := h.2 i (L[i]'(by rw [h.1]; exact hi)).1 (L[i]'(by rw [h.1]; exact hi)).2 (by simp [h.1, hi])
  have : y = es[i] := by simpa [hi] using h1.symm
  rw [← this, h2]
  trivial
/-- a search finds what it shall -/
theorem find_sound {rl : Rl} {s : List UInt8} : ∀ {L : List (List UInt8 × AVal)} {es : List MapEntry} (i : Nat), MapR rl L es →
    (mfind L s = none ∧ Instr.findNow .string (.string ⟨s.toArray⟩) es i = some none) ∨
    ∃ v j x, mfind L s = some v ∧ Instr.findNow .string (.string ⟨s.toArray⟩) es i = some (some (i + j, x.val)) ∧ es[j]? = some x ∧ x.key = .string ⟨s.toArray⟩ ∧ v.scalar = true ∧ VR rl [] v x.val
  | [], es, i, h => by
    have : es = [] := List.eq_nil_of_length_eq_zero h.1.symm
    subst this
    exact .inl ⟨rfl, rfl⟩
  | (k, v) :: L, es, i, h => by
    obtain ⟨x, es', rfl, h1, h2, h3, h4⟩ := h.cons
    obtain ⟨r, hr, hiff⟩ := MapKept.sameNow_of_keys (d := .string) (a := .string ⟨s.toArray⟩) (b := x.key) trivial (by rw [h1]; trivial)
    unfold mfind
    cases he : eqL k s with
    | true =>
      have hks := (eqL_iff _ _).1 he
      subst hks
      have hrt : r = true := hiff.2 h1.symm
      subst hrt
      exact .inr ⟨v, 0, x, rfl, by simp [Instr.findNow, hr], rfl, h1, h2, h3⟩
    | false =>
      have hrf : r = false := by
        cases r with
        | false => rfl
        | true =>
          have := hiff.1 rfl
          rw [h1] at this
          rw [(eqL_iff _ _).2 (str_inj this).symm] at he
          cases he
      subst hrf
      rcases find_sound (i + 1) h4 with ⟨g1, g2⟩ | ⟨v', j, x', g1, g2, g3, g4, g5, g6⟩
      · exact .inl ⟨g1, by simp [Instr.findNow, hr, g2]⟩
      · exact .inr ⟨v', j + 1, x', g1, by simp [Instr.findNow, hr, g2]; omega, by simpa using g3, g4, g5, g6⟩
/-- where the key is new -/
theorem put_new {rl : Rl} {s : List UInt8} {v : AVal} {y : MapEntry} (hy : y.key = .string ⟨s.toArray⟩) (hs : v.scalar = true) (hv : VR rl [] v y.val) : ∀ {L : List (List UInt8 × AVal)} {es : List MapEntry}, MapR rl L es → mfind L s = none → MapR rl (mput L s v) (es ++ [y])
  | [], es, h, _ => by
    have : es = [] := List.eq_nil_of_length_eq_zero h.1.symm
    subst this
    exact MapR.mk hy hs hv h
  | (k, u) :: L, es, h, hf => by
    obtain ⟨x, es', rfl, h1, h2, h3, h4⟩ := h.cons
    unfold mfind at hf
    unfold mput
    cases he : eqL k s with
    | true => rw [he] at hf; cases hf
    | false =>
      rw [he] at hf
      exact MapR.mk h1 h2 h3 (put_new hy hs hv h4 hf)
/-- where the key is there -/
theorem put_old {rl : Rl} {s : List UInt8} {v : AVal} {f : MapEntry → MapEntry} (hs : v.scalar = true) (hf : ∀ x, (f x).key = .string ⟨s.toArray⟩ ∧ VR rl [] v (f x).val) : ∀ {L : List (List UInt8 × AVal)} {es : List MapEntry} {i j : Nat} {x : MapEntry}, MapR rl L es →
    Instr.findNow .string (.string ⟨s.toArray⟩) es i = some (some (i + j, x.val)) → MapR rl (mput L s v) (es.modify j f)
  | [], es, i, j, x, h, h0 => by
    have : es = [] := List.eq_nil_of_length_eq_zero h.1.symm
    subst this
    cases h0
  | (k, u) :: L, es, i, j, x, h, h0 => by
    obtain ⟨x1, es', rfl, h1, h2, h3, h4⟩ := h.cons
    obtain ⟨r, hr, hiff⟩ := MapKept.sameNow_of_keys (d := .string) (a := .string ⟨s.toArray⟩) (b := x1.key) trivial (by rw [h1]; trivial)
    unfold mput
    cases r with
    | true =>
      have hk := hiff.1 rfl
      rw [h1] at hk
      have hks := str_inj hk
      subst hks
      rw [(eqL_iff _ _).2 rfl]
      simp [Instr.findNow, hr] at h0
      have hj : j = 0 := by omega
      subst hj
      exact MapR.mk (hf x1).1 hs (hf x1).2 h4
    | false =>
      have he : eqL k s = false := by
        cases he : eqL k s with
        | false => rfl
        | true =>
          have hks := (eqL_iff _ _).1 he
          subst hks
          have := hiff.2 h1.symm
          cases this
      rw [he]
      simp only [Instr.findNow, hr] at h0
      obtain ⟨j', rfl⟩ : ∃ j', j = j' + 1 := by
        rcases find_sound (i + 1) h4 with ⟨-, g2⟩ | ⟨v', j2, x', -, g2, -⟩
        · rw [g2] at h0; cases h0
        · rw [g2] at h0
          simp at h0
          exact ⟨j - 1, by omega⟩
      exact MapR.mk h1 h2 h3 (put_old hs hf (i := i + 1) (x := x) h4 (by rw [h0]; congr 3; omega))

/- the operations -/
variable {o : Oper} {a : Act} {st st' : St} {v : AVal}
theorem stp_mkm {t : TypeId} (hE : E.Ok) (hr : HR E m st.h w) (ho : o.op = .makeMap t none) (hs : stepK E.ro st .mkm = some (v, st')) : Stp E o a m st w v st' := by
  simp only [stepK, st_mkm, Option.some.injEq, Prod.mk.injEq] at hs
  obtain ⟨rfl, rfl⟩ := hs
  have T := hr.newO hE (K := 0) (b0 := { e := 0, n := 0, c := .e, g := some (.mp []) }) (ob := .map #[] 0) (fun m' _ => .inr (.inl ⟨rfl, [], #[], 0, rfl, rfl, rfl, by simp⟩)) st.lw st.lp
  refine ⟨rfl, .map (some w.heap.size), w.alloc (.map #[] 0), m ++ [some (w.heap.size, 0)], .inl ?_, .mp _ _ 0 (by rw [← hr.len]; simp), T⟩
  simp [execOp, ho, Instr.makeMap, Result.andThen]
theorem run_lookup_none {P : Program} {w : World} {t kt et : TypeId} {r : Nat} {k zv : Value} {es : Array MapEntry} {clock : Nat} (hu : P.underlying t = some (.map kt et)) (hd : P.underlying kt = some .string) (hb : w.heap[r]? = some (.map es clock)) (hk : MapKept.IsKey .string k)
    (h : Instr.findNow .string k es.toList 0 = some none) (hz : (zeroValue et).run P w = .ok zv w) (ok : Bool) : (Instr.lookup t (.map (some r)) k ok).run P w = .ok (if ok then .tuple #[zv, .bool false] else zv) w := by
  unfold Instr.lookup
  simp only [Sem.run_bind, run_underlying hu, Result.andThen, MapKept.run_getObj_map hb, Sem.run_pure, MapKept.run_checkKey hd hk, MapKept.run_findKey hd h, hz]
theorem run_lookup_some {P : Program} {w : World} {t kt et : TypeId} {r j : Nat} {k u : Value} {es : Array MapEntry} {clock : Nat} (hu : P.underlying t = some (.map kt et)) (hd : P.underlying kt = some .string) (hb : w.heap[r]? = some (.map es clock)) (hk : MapKept.IsKey .string k)
    (h : Instr.findNow .string k es.toList 0 = some (some (j, u))) (ok : Bool) : (Instr.lookup t (.map (some r)) k ok).run P w = .ok (if ok then .tuple #[u, .bool true] else u) w := by
  unfold Instr.lookup
  simp only [Sem.run_bind, run_underlying hu, Result.andThen, MapKept.run_getObj_map hb, Sem.run_pure, MapKept.run_checkKey hd hk, MapKept.run_findKey hd h]
theorem czv_sound {e : TypeId} {z : AVal} (h : czv E.P e = some z) : ∃ i zv, E.P.info? e = some i ∧ i.zero = some zv ∧ ∀ (rl : Rl) (m : M), VR rl m z zv := by
  unfold czv at h
  split at h
  · rename_i i hi
    split at h
    · rename_i zv hz
      exact ⟨i, zv, hi, hz, fun rl m => cval_sound h rl m⟩
    · cases h
  · cases h
theorem stp_mlk {t kt et : TypeId} {x k : Operand} {x' k' : AOpd} {z : AVal} {ok : Bool} (hr : HR E m st.h w) (ho : o.op = .lookup t x k ok) (hu : E.P.underlying t = some (.map kt et)) (hk : E.P.underlying kt = some .string) (hz : czv E.P et = some z)
    (hx : copd x = some x') (hkk : copd k = some k') (ht : TRk E.rl m st.t a (opdT x' ++ opdT k')) (hs : stepK E.ro st (.mlk ok z x' k') = some (v, st')) : Stp E o a m st w v st' := by
  have rx := copd_sound hx (rl := E.rl) (m := m) (t := st.t) (a := a) (ht.mem fun n hn => by simp [hn])
  have ry := copd_sound hkk (rl := E.rl) (m := m) (t := st.t) (a := a) (ht.mem fun n hn => by simp [hn])
  simp only [stepK, st_mlk] at hs
  split at hs
  · rename_i b ex
    split at hs
    · rename_i blk hb
      split at hs
      · rename_i L hg
        split at hs
        · rename_i s ek
          simp only [Option.some.injEq, Prod.mk.injEq] at hs
          obtain ⟨rfl, rfl⟩ := hs
          rw [ex] at rx
          rw [ek] at ry
          obtain ⟨r, K, e1, hm⟩ := rx.inv_mp
          have e2 := ry.inv_s
          rw [lget_eq] at hb
          obtain ⟨-, hbk⟩ := hr.blk b blk r K ⟨hb, hm⟩
          rcases hbk with ⟨h0, -⟩ | ⟨-, L', es, clock, hg', ho', hmr⟩ | ⟨-, L', _, _, _, hg', -⟩
          · rw [h0] at hg; cases hg
          rotate_left
          · rw [hg] at hg'; cases hg'
          · rw [hg] at hg'
            cases hg'
            obtain ⟨i, zv, hi, hz0, hzr⟩ := czv_sound hz
            have hkey : MapKept.IsKey .string (.string ⟨s.toArray⟩) := trivial
            have hzrun := run_zero (P := E.P) hi hz0 w
            rcases find_sound 0 hmr with ⟨g1, g2⟩ | ⟨u, j, y, g1, g2, -, -, g5, g6⟩
            · refine ⟨rfl, if ok then .tuple #[zv, .bool false] else zv, w, m, .inl ?_, ?_, Tn.refl hr _ _⟩
              · simp [execOp, ho, e1, e2, run_lookup_none hu hk ho' hkey g2 hzrun ok]
              · rw [g1]
                cases ok with
                | false => exact hzr _ _
                | true =>
                  refine .tup _ _ rfl fun i u hu => ?_
                  match i with
                  | 0 => simp at hu; subst hu; exact hzr _ _
                  | 1 => simp at hu; subst hu; exact .b _
                  | i + 2 => simp at hu
            · have g6' : VR E.rl m u y.val := g6.mono fun i x hx => by simp at hx
              refine ⟨rfl, if ok then .tuple #[y.val, .bool true] else y.val, w, m, .inl ?_, ?_, Tn.refl hr _ _⟩
              · simp [execOp, ho, e1, e2, run_lookup_some hu hk ho' hkey g2 ok]
              · rw [g1]
                cases ok with
                | false => exact g6'
                | true =>
                  refine .tup _ _ rfl fun i u hu => ?_
                  match i with
                  | 0 => simp at hu; subst hu; exact g6'
                  | 1 => simp at hu; subst hu; exact .b _
                  | i + 2 => simp at hu
        · cases hs
      · cases hs
    · cases hs
  · cases hs
theorem vr_flat {rl : Rl} {m m' : M} {v : AVal} {v' : Value} (hs : v.scalar = true) (h : VR rl m v v') : VR rl m' v v' := by
  cases h <;> first | (simp [AVal.scalar] at hs; done) | constructor
theorem stp_mup {t kt et : TypeId} {x k u : Operand} {x' k' u' : AOpd} (hr : HR E m st.h w) (ho : o.op = .mapUpdate t x k u) (hu : E.P.underlying t = some (.map kt et)) (hk : E.P.underlying kt = some .string)
    (hx : copd x = some x') (hkk : copd k = some k') (huu : copd u = some u') (ht : TRk E.rl m st.t a (opdT x' ++ opdT k' ++ opdT u')) (hs : stepK E.ro st (.mup x' k' u') = some (v, st')) : Stp E o a m st w v st' := by
  have rx := copd_sound hx (rl := E.rl) (m := m) (t := st.t) (a := a) (ht.mem fun n hn => by simp [hn])
  have ry := copd_sound hkk (rl := E.rl) (m := m) (t := st.t) (a := a) (ht.mem fun n hn => by simp [hn])
  have rz := copd_sound huu (rl := E.rl) (m := m) (t := st.t) (a := a) (ht.mem fun n hn => by simp [hn])
  simp only [stepK, st_mup] at hs
  split at hs
  · rename_i b ex
    split at hs
    · rename_i blk hb
      split at hs
      · rename_i L hg
        split at hs
        · rename_i s ek
          cases hsc : (opd st.t u').scalar
          · rw [hsc] at hs; cases hs
          rw [hsc] at hs
          simp only [cond_true, Option.some.injEq, Prod.mk.injEq] at hs
          obtain ⟨rfl, rfl⟩ := hs
          rw [ex] at rx
          rw [ek] at ry
          obtain ⟨r, K, e1, hm⟩ := rx.inv_mp
          have e2 := ry.inv_s
          rw [lget_eq] at hb
          have live : Live m st.h b blk r K := ⟨hb, hm⟩
          obtain ⟨-, hbk⟩ := hr.blk b blk r K live
          rcases hbk with ⟨h0, -⟩ | ⟨hn0, L', es, clock, hg', ho', hmr⟩ | ⟨-, L', _, _, _, hg', -⟩
          · rw [h0] at hg; cases hg
          rotate_left
          · rw [hg] at hg'; cases hg'
          · rw [hg] at hg'
            cases hg'
            have hkey : MapKept.IsKey .string (.string ⟨s.toArray⟩) := trivial
            have rz0 : VR E.rl [] (opd st.t u') (a.eval u) := vr_flat hsc rz
            have hks := hmr.keys
            rw [lset_eq]
            rcases find_sound 0 hmr with ⟨g1, g2⟩ | ⟨u0, j, y, g1, g2, g3, g4, -, -⟩
            · have hR : MapR E.rl (mput L s (opd st.t u')) (es.push { key := .string ⟨s.toArray⟩, val := a.eval u, born := clock }).toList := by
                rw [Array.toList_push]
                exact put_new rfl hsc rz0 hmr g1
              have T := hr.setO live (b' := { blk with g := some (.mp (mput L s (opd st.t u'))) }) (ob := .map (es.push { key := .string ⟨s.toArray⟩, val := a.eval u, born := clock }) (clock + 1)) rfl (.inr (.inl ⟨hn0, _, _, _, rfl, rfl, hR⟩)) rfl rfl hn0 (by simp [ABlk.fix, hg]) st.lw st.lp
              refine ⟨rfl, undef, _, m, .inr ⟨?_, rfl⟩, VR.und _ _, T⟩
              simp [execOp, ho, e1, e2, Instr.mapUpdate, run_underlying hu, MapKept.run_getObj_map ho', MapKept.run_checkKey hk hkey, MapKept.run_findKey hk g2, MapKept.run_setObj_map _ ho', Result.andThen]
            · rw [Nat.zero_add] at g2
              have g3' : es[j]? = some y := by simpa using g3
              have hR : MapR E.rl (mput L s (opd st.t u')) (es.modify j fun e => { e with key := .string ⟨s.toArray⟩, val := a.eval u }).toList := by
                rw [Array.toList_modify]
                exact put_old (i := 0) (x := y) hsc (fun x => ⟨rfl, rz0⟩) hmr (by rw [Nat.zero_add]; exact g2)
              have T := hr.setO live (b' := { blk with g := some (.mp (mput L s (opd st.t u'))) }) (ob := .map (es.modify j fun e => { e with key := .string ⟨s.toArray⟩, val := a.eval u }) clock) rfl (.inr (.inl ⟨hn0, _, _, _, rfl, rfl, hR⟩)) rfl rfl hn0 (by simp [ABlk.fix, hg]) st.lw st.lp
              refine ⟨rfl, undef, _, m, .inr ⟨?_, rfl⟩, VR.und _ _, T⟩
              simp [execOp, ho, e1, e2, Instr.mapUpdate, run_underlying hu, MapKept.run_getObj_map ho', MapKept.run_checkKey hk hkey, MapKept.run_findKey hk g2, g3', g4, MapKept.run_keyThatStays hkey, MapKept.run_setObj_map _ ho', Result.andThen]
        · cases hs
      · cases hs
    · cases hs
  · cases hs
end
end Go.Vm

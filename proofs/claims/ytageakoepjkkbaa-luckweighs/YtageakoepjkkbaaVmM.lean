/- append. -/
import Derived.Test.YtageakoepjkkbaaVmL
namespace Go.Vm
open Go.RowKit

theorem growBy_le (n : Nat) (hn : 256 ≤ n) : ∀ (r c : Nat), c ≤ 2 * n → Builtin.growBy n r c ≤ 2 * n
  | 0, c, h => h
  | r + 1, c, h => by
    simp only [Builtin.growBy]
    split
    · exact h
    · rename_i hc
      exact growBy_le n hn r _ (by omega)

theorem nextcap_le (n c : Nat) (h : c < n) : Builtin.nextslicecap n c ≤ 2 * n := by
  unfold Builtin.nextslicecap
  split
  · omega
  · split
    · omega
    · exact growBy_le n (by omega) 4 c (by omega)

section
variable {E : Env} {m : M} {h : Heap} {w : World}

/-- what is appended, read -/
theorem app_src_sound (hE : E.Ok) (hr : HR E m h w) {y : AVal} {y' : Value} (hy : VR E.rl m y y') {es : Nat} {ys : List AVal} {n : Nat} (hs : app_src E.ro h es y = some (ys, n)) :
    ys.length = n * es ∧ (∀ w2, (Builtin.lenOf y').run E.P w2 = .ok n w2) ∧ ∃ ys', LR E.rl m ys ys' ∧ ∀ w2, w2.heap = w.heap → (Builtin.firstCells es n y').run E.P w2 = .ok ys' w2 := by
  unfold app_src at hs
  split at hs
  · cases hs
    rw [hy.inv_nsl]
    refine ⟨by simp, fun _ => rfl, #[], ⟨rfl, by simp⟩, fun _ _ => rfl⟩
  · rename_i q n' c
    split at hs
    · rename_i b hb
      cases hc : Nat.ble (q.off + n' * es) b.n
      · rw [hc] at hs; cases hs
      rw [hc] at hs
      cases hs
      obtain ⟨p, c', e', hp, -⟩ := hy.inv_sl
      obtain ⟨cs', h1, h2⟩ := hr.reads hE hp hb (n * es) (Nat.le_of_ble_eq_true hc)
      refine ⟨length_row _ _ _, fun _ => by rw [e']; rfl, cs', h2, fun w2 hw2 => ?_⟩
      rw [e']
      simp only [Builtin.firstCells]
      have hcell : ∀ x, w2.cell? x = w.cell? x := fun x => by unfold World.cell?; rw [hw2]
      have hrd := hr.read hE hp hb
      have e1 := run_loadCells (P := E.P) w p (n * es) (fun j => (w.cell? (p.add j)).getD undef) (fun j hj => by
        obtain ⟨v', e, -⟩ := hrd j (by have := Nat.le_of_ble_eq_true hc; omega); rw [e]; rfl)
      have e2 := run_loadCells (P := E.P) w2 p (n * es) (fun j => (w.cell? (p.add j)).getD undef) (fun j hj => by
        obtain ⟨v', e, -⟩ := hrd j (by have := Nat.le_of_ble_eq_true hc; omega); rw [hcell, e]; rfl)
      rw [h1] at e1
      rw [e2]
      cases e1
      rfl
    · cases hs
  · cases hs

/-- the cells of a slice's first elements -/
theorem first_sound (hE : E.Ok) (hr : HR E m h w) {q : Loc} {p : Addr} {b : ABlk} (ha : addr E.rl m q = some p) (hb : rdB E.ro h q = some b) (k : Nat) (hn : q.off + k ≤ b.n) :
    ∃ cs', LR E.rl m (b.c.row q.off k) cs' ∧ ∀ w2, w2.heap = w.heap → (loadCells p k).run E.P w2 = .ok cs' w2 := by
  have hrd := hr.read hE ha hb
  refine ⟨((List.range k).map fun j => (w.cell? (p.add j)).getD undef).toArray, ?_, fun w2 hw2 => run_loadCells w2 p k _ (fun j hj => ?_)⟩
  · refine ⟨by simp [length_row], fun i v hv => ?_⟩
    rw [getElem?_row] at hv
    split at hv
    · rename_i hi
      cases hv
      obtain ⟨v', e, hv'⟩ := hrd i (by omega)
      simpa [Array.getD_eq_getD_getElem?, hi, e] using hv'
    · cases hv
  · obtain ⟨v', e, -⟩ := hrd j (by omega)
    have : w2.cell? (p.add j) = w.cell? (p.add j) := by unfold World.cell?; rw [hw2]
    rw [this, e]; rfl

theorem LR.app {rl : Rl} {m : M} {x y : List AVal} {x' y' : Array Value} (hx : LR rl m x x') (hy : LR rl m y y') : LR rl m (x ++ y) (x' ++ y') := by
  refine ⟨by simp [hx.1, hy.1], fun i v hv => ?_⟩
  by_cases h : i < x.length
  · rw [List.getElem?_append_left h] at hv
    have := hx.2 i v hv
    have hs : i < x'.size := by rw [← hx.1]; exact h
    simpa [Array.getD_eq_getD_getElem?, Array.getElem?_append_left hs] using this
  · rw [List.getElem?_append_right (by omega)] at hv
    have := hy.2 _ v hv
    have hs : x'.size ≤ i := by rw [← hx.1]; omega
    rw [hx.1] at this
    simpa [Array.getD_eq_getD_getElem?, Array.getElem?_append_right hs] using this

theorem fits_inv {n bytes : Nat} (h : fits n bytes = true) : n * bytes ≤ 1099511627776 ∧ n ≤ 1099511627776 := by
  simp only [fits, Bool.and_eq_true] at h
  exact ⟨Nat.le_of_ble_eq_true h.1, Nat.le_of_ble_eq_true h.2⟩

variable {o : Oper} {a : Act} {st st' : St} {v : AVal}

/-- the model's append where the room does not do -/
theorem app_run_new {x y : Operand} {t u e e2 : TypeId} {s len cap n : Nat} {A : Option Addr} {i : TypeInfo} {zv : Value} {old' new' : Array Value} (ho : o.op = .call { callee := .builtin .append, args := #[x, y], argTypes := #[t, u] })
    (hu : E.P.underlying t = some (.slice e)) (hu2 : E.P.underlying u = some (.slice e2)) (hsz : csize E.P e = some s) (hi : E.P.info? e = some i) (hz0 : i.zero = some zv)
    (ex : a.eval x = .slice A len cap) (hlen : ∀ w2, (Builtin.lenOf (a.eval y)).run E.P w2 = .ok n w2) (hnew : ∀ w2, w2.heap = w.heap → (Builtin.firstCells s n (a.eval y)).run E.P w2 = .ok new' w2)
    (hold : ∀ w2, w2.heap = w.heap → (Builtin.firstCells s len (.slice A len cap)).run E.P w2 = .ok old' w2) (hgt : cap < len + n) (hf : fits (len + n) i.bytes = true) :
    ∃ nc, len + n ≤ nc ∧ (execOp a.eval o).run E.P w = .ok (.value (.slice (some ⟨w.heap.size, 0, none⟩) (len + n) nc)) (w.drew.alloc (.cells (old' ++ new' ++ Builtin.zeroCells zv.cells (nc - (len + n))) e)) := by
  obtain ⟨f1, f2⟩ := fits_inv hf
  have hnc := nextcap_le (len + n) cap hgt
  have h1 : ¬ (len + n ≤ cap) := by omega
  have h2 : ¬ (((len + n : Nat) : Int) > IntKind.i64.max ∧ (false = true ∨ i.bytes = 0)) := by
    rintro ⟨h, -⟩
    have : IntKind.i64.max = 9223372036854775807 := by decide
    omega
  have h3 : ¬ (Builtin.nextslicecap (len + n) cap * i.bytes > 2 ^ 48) := by
    have : Builtin.nextslicecap (len + n) cap * i.bytes ≤ 2 * (len + n) * i.bytes := Nat.mul_le_mul_right _ hnc
    have e : 2 * (len + n) * i.bytes = 2 * ((len + n) * i.bytes) := by rw [Nat.mul_assoc]
    have : (2 : Nat) ^ 48 = 281474976710656 := by decide
    omega
  have hti : ∀ w2, (typeInfo e).run E.P w2 = .ok i w2 := fun w2 => by simp [typeInfo, hi]
  refine ⟨(Question.appendCap (len + n) cap e).cut (w.tape w.drawn (.appendCap (len + n) cap e)), by simp [Question.cut], ?_⟩
  have hd : w.drew.heap = w.heap := rfl
  have hnew1 := hnew w.drew hd
  have hold1 := hold w.drew hd
  have hforced : (Question.appendCap (len + n) cap e).forced = false := rfl
  have h2' : ¬ (9223372036854775807 < (len : Int) + (n : Int) ∧ i.bytes = 0) := fun h => by omega
  simp only [execOp, ho, resolve, invoke, builtin, Builtin.append_, List.map_toArray, List.map_cons, List.map_nil, Sem.run_bind, Sem.run_pure, Result.andThen_ok, List.getElem?_toArray, List.getElem?_cons_zero, List.getElem?_cons_succ,
    run_und hu, run_und hu2, csize_sound hsz, ex, hlen, h1, if_false, hti, Bool.false_eq_true]
  simp [newRow, hti, h3, hnew1, run_zero hi hz0, hold1]
  rw [if_neg h2', if_neg (by simp [hforced])]

/-- the model's append where it does -/
theorem app_run_in {x y : Operand} {t u e e2 : TypeId} {s len cap n : Nat} {p : Addr} {new' : Array Value} {w' : World} (ho : o.op = .call { callee := .builtin .append, args := #[x, y], argTypes := #[t, u] })
    (hu : E.P.underlying t = some (.slice e)) (hu2 : E.P.underlying u = some (.slice e2)) (hsz : csize E.P e = some s)
    (ex : a.eval x = .slice (some p) len cap) (hlen : ∀ w2, (Builtin.lenOf (a.eval y)).run E.P w2 = .ok n w2) (hnew : (Builtin.firstCells s n (a.eval y)).run E.P w = .ok new' w)
    (hst : (storeCells (p.add (len * s)) new'.toList).run E.P w = .ok () w') (hle : len + n ≤ cap) :
    (execOp a.eval o).run E.P w = .ok (.value (.slice (some p) (len + n) cap)) w' := by
  simp only [execOp, ho, resolve, invoke, builtin, Builtin.append_, List.map_toArray, List.map_cons, List.map_nil, Sem.run_bind, Sem.run_pure, Result.andThen_ok, List.getElem?_toArray, List.getElem?_cons_zero, List.getElem?_cons_succ,
    run_und hu, run_und hu2, csize_sound hsz, ex, hlen, hle, if_true, Bool.false_eq_true, if_false]
  simp [hnew, hst]

theorem app_run_nil {x y : Operand} {t u e e2 : TypeId} {s : Nat} {new' : Array Value} (ho : o.op = .call { callee := .builtin .append, args := #[x, y], argTypes := #[t, u] })
    (hu : E.P.underlying t = some (.slice e)) (hu2 : E.P.underlying u = some (.slice e2)) (hsz : csize E.P e = some s)
    (ex : a.eval x = .slice none 0 0) (hlen : ∀ w2, (Builtin.lenOf (a.eval y)).run E.P w2 = .ok 0 w2) (hnew : (Builtin.firstCells s 0 (a.eval y)).run E.P w = .ok new' w) :
    (execOp a.eval o).run E.P w = .ok (.value (.slice none 0 0)) w := by
  simp only [execOp, ho, resolve, invoke, builtin, Builtin.append_, List.map_toArray, List.map_cons, List.map_nil, Sem.run_bind, Sem.run_pure, Result.andThen_ok, List.getElem?_toArray, List.getElem?_cons_zero, List.getElem?_cons_succ,
    run_und hu, run_und hu2, csize_sound hsz, ex, hlen, Nat.add_zero, Nat.le_refl, if_true, Bool.false_eq_true, if_false]
  simp [hnew]

end
end Go.Vm

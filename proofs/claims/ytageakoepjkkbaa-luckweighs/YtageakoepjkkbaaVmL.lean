/- One operation of the small machine, calls and append apart, is one operation of the model. -/
import Derived.Test.YtageakoepjkkbaaVmFS
import Derived.Test.YtageakoepjkkbaaVmK
import Derived.Laws.MakeOwn
namespace Go.Vm
open Go.RowKit

/-- an operation's value, or that it gives none -/
def Gives (r : Result Next) (v' : Value) (w' : World) : Prop := r = .ok (.value v') w' ∨ (r = .ok .skip w' ∧ v' = undef)

def Stp (E : Env) (o : Oper) (a : Act) (m : M) (st : St) (w : World) (v : AVal) (st' : St) : Prop :=
  st'.t = st.t ∧ ∃ v' w' m', Gives ((execOp a.eval o).run E.P w) v' w' ∧ VR E.rl m' v v' ∧ Tn E m st.h st.lw st.lp w m' st'.h st'.lw st'.lp w'

theorem getElem?_rep (z : List AVal) : ∀ (n i : Nat), (rep z n)[i]? = if i < n * z.length then z[i % z.length]? else none
  | 0, i => by simp [rep]
  | n + 1, i => by
    rw [rep]
    by_cases h : i < z.length
    · rw [List.getElem?_append_left h]
      have : i < (n + 1) * z.length := by rw [Nat.succ_mul]; omega
      rw [if_pos this, Nat.mod_eq_of_lt h]
    · rw [List.getElem?_append_right (by omega), getElem?_rep z n]
      have e : (n + 1) * z.length = n * z.length + z.length := Nat.succ_mul _ _
      have hm : (i - z.length) % z.length = i % z.length := by
        have : i = (i - z.length) + z.length := by omega
        conv => rhs; rw [this]
        rw [Nat.add_mod_right]
      by_cases h2 : i - z.length < n * z.length
      · rw [if_pos h2, if_pos (by omega), hm]
      · rw [if_neg h2, if_neg (by omega)]

theorem length_rep (z : List AVal) : ∀ n, (rep z n).length = n * z.length
  | 0 => by simp [rep]
  | n + 1 => by rw [rep, List.length_append, length_rep z n, Nat.succ_mul]; omega

theorem rep_sound {rl : Rl} {m : M} {z : List AVal} {z' : Array Value} (h : LR rl m z z') (n k : Nat) (hk : k = n * z.length) : LR rl m (rep z n) ((Array.range k).map (z'[· % z'.size]!)) := by
  subst hk
  refine ⟨by simp [length_rep], fun i v hv => ?_⟩
  rw [getElem?_rep] at hv
  split at hv
  · rename_i hi
    have := h.2 _ _ hv
    rw [h.1] at this
    have e : ((Array.range (n * z.length)).map (z'[· % z'.size]!)).getD i undef = z'.getD (i % z'.size) undef := by
      have hz : i % z'.size < z'.size := by
        apply Nat.mod_lt
        rcases Nat.eq_zero_or_pos z'.size with h0 | h0
        · rw [h.1, h0] at hi; simp at hi
        · exact h0
      rw [Array.getD_eq_getD_getElem?, Array.getElem?_map]
      simp [hi, hz]
    rw [e]; exact this
  · cases hv

theorem length_splice : ∀ (cs z : List AVal) (k : Nat), (splice z k cs).length = z.length
  | [], _, _ => rfl
  | c :: cs, z, k => by rw [splice, length_splice cs]; simp

theorem length_fillA : ∀ {ps : List ((Nat × Nat) × AVal)} {z z1 : List AVal}, fillA z ps = some z1 → z1.length = z.length
  | [], z, z1, h => by cases h; rfl
  | ((off, size), v) :: ps, z, z1, h => by
    simp only [fillA] at h
    split at h
    · rw [length_fillA h, length_splice]
    · cases h

section
variable {E : Env} {o : Oper} {a : Act} {m : M} {st st' : St} {w : World} {v : AVal}

theorem stp_ld {ty : TypeId} {x : Operand} {ag : Bool} {n : Nat} {x' : AOpd} (hE : E.Ok) (hr : HR E m st.h w) (ho : o.op = .load ty x) (hag : cagg E.P ty = some ag) (hn : csize E.P ty = some n) (hx : copd x = some x')
    (ht : TRk E.rl m st.t a (opdT x')) (hs : stepK E.ro st (.ld (!ag) n x') = some (v, st')) : Stp E o a m st w v st' := by
  have rx := copd_sound hx ht
  simp only [stepK] at hs
  split at hs
  · rename_i q e
    rw [Option.map_eq_some_iff] at hs
    obtain ⟨u, hu, e2⟩ := hs
    cases e2
    rw [e] at rx
    obtain ⟨p, e', hp⟩ := rx.inv_p
    obtain ⟨v', h1, h2⟩ := rd_sound hE hr hp hag hn hu
    exact ⟨rfl, v', w, m, .inl (by simp [execOp, ho, e', Instr.loadAt, Instr.sureAddr, h1]), h2, Tn.refl hr _ _⟩
  · cases hs

theorem bytesA_inv {rl : Rl} : ∀ {cs : List AVal} {l : List UInt8} {cs' : Array Value}, bytesA cs = some l → LR rl m cs cs' → cs'.toList = (l.map fun b => (b.toNat : Int)).map (Value.int .u8)
  | [], l, cs', h, hl => by
    simp only [bytesA, Option.some.injEq] at h
    subst h
    have : cs'.size = 0 := by rw [← hl.1]; rfl
    simp [Array.eq_empty_of_size_eq_zero this]
  | c :: cs, l, cs', h, hl => by
    unfold bytesA at h
    split at h
    · cases ‹_ :: _ = []›
    · rename_i n l2 e
      cases e
      split at h
      · rename_i j
        cases hc : Nat.blt j 256
        · rw [hc] at h; cases h
        · rw [hc] at h
          rw [Nat.blt_eq] at hc
          simp only [cond_true, Option.map_eq_some_iff] at h
          obtain ⟨l3, h3, rfl⟩ := h
          have h0 := hl.2 0 (.i .u8 (.ofNat j)) rfl
          have e0 := h0.inv_i
          have hsz : cs'.size = cs.length + 1 := by rw [← hl.1]; rfl
          obtain ⟨v0, tl, htl⟩ : ∃ v0 tl, cs'.toList = v0 :: tl := by
            cases hh : cs'.toList with
            | nil =>
              have := congrArg List.length hh
              rw [Array.length_toList, List.length_nil] at this
              omega
            | cons a b => exact ⟨a, b, rfl⟩
          have hcs : cs' = (v0 :: tl).toArray := by rw [← htl]
          have hv0 : v0 = .int .u8 (.ofNat j) := by
            rw [hcs] at e0
            simpa [Array.getD_eq_getD_getElem?] using e0
          have htlen : tl.length = cs.length := by
            have := congrArg List.length htl
            rw [Array.length_toList, List.length_cons] at this
            omega
          have ih := bytesA_inv (rl := rl) (cs' := tl.toArray) h3 ⟨by simp [htlen], fun i u hu => by
            have := hl.2 (i + 1) u (by simpa using hu)
            rw [hcs] at this
            simpa [Array.getD_eq_getD_getElem?] using this⟩
          rw [htl, hv0]
          have hj : (UInt8.ofNat j).toNat = j := by rw [UInt8.toNat_ofNat']; exact Nat.mod_eq_of_lt (by have : (2 : Nat) ^ 8 = 256 := rfl; omega)
          simp only [List.map_cons, hj]
          rw [← ih]
          simp
      · cases h
    · cases h
theorem fold_bytes : ∀ (l : List UInt8) (s : ByteArray), ((l.map fun b => (b.toNat : Int)).foldl (fun r n => r.push (UInt8.ofNat n.toNat)) s) = ⟨(s.data.toList ++ l).toArray⟩
  | [], s => by cases s; simp
  | b :: l, s => by
    simp only [List.map_cons, List.foldl_cons]
    rw [fold_bytes l]
    have : UInt8.ofNat ((b.toNat : Int).toNat) = b := by simp
    rw [this]
    cases s
    simp [ByteArray.push]
theorem stp_bts {src dst e : TypeId} {x : Operand} {x' : AOpd} (hE : E.Ok) (hr : HR E m st.h w) (ho : o.op = .convert src dst x) (hs : E.P.underlying src = some (.slice e)) (he : E.P.underlying e = some (.int .u8)) (hd : E.P.underlying dst = some .string) (hx : copd x = some x')
    (ht : TRk E.rl m st.t a (opdT x')) (hst : stepK E.ro st (.bts x') = some (v, st')) : Stp E o a m st w v st' := by
  have rx := copd_sound hx ht
  simp only [stepK, st_bts] at hst
  split at hst
  · rename_i e1
    cases hst
    rw [e1] at rx
    have e2 := rx.inv_nsl
    refine ⟨rfl, .string .empty, w, m, .inl ?_, .s [], Tn.refl hr _ _⟩
    simp [execOp, ho, e2, convert, run_und hs, run_und hd, run_und he, Conv.bytesToString]
  · rename_i q n cp e1
    split at hst
    · rename_i b hb
      cases hc : Nat.ble (q.off + n) b.n
      · rw [hc] at hst; cases hst
      · rw [hc] at hst
        rw [Nat.ble_eq] at hc
        simp only [cond_true, Option.map_eq_some_iff] at hst
        obtain ⟨l, hl, e3⟩ := hst
        cases e3
        rw [e1] at rx
        obtain ⟨p, c', e2, hp, hcap⟩ := rx.inv_sl
        obtain ⟨cs', h1, h2⟩ := hr.reads hE hp hb n hc
        have h3 := bytesA_inv hl h2
        have h4 : cs' = ((l.map fun b => (b.toNat : Int)).map (Value.int .u8)).toArray := by rw [← h3]
        rw [h4] at h1
        have h5 := run_bytesToString (P := E.P) w p n c' _ h1
        rw [fold_bytes] at h5
        refine ⟨rfl, .string ⟨l.toArray⟩, w, m, .inl ?_, .s _, Tn.refl hr _ _⟩
        have h6 : (convert src dst (.slice (some p) n c')).run E.P w = .ok (.string ⟨l.toArray⟩) w := by
          rw [run_convert_bytes_string w src dst e (some p) n c' hs he hd, h5]
          simp
        simp [execOp, ho, e2, h6]
    · cases hst
  · cases hst

theorem stp_al {e : TypeId} {z : List AVal} (hE : E.Ok) (hr : HR E m st.h w) (ho : o.op = .alloc e) (hz : czero E.P e = some z) (hs : stepK E.ro st (.al e z) = some (v, st')) : Stp E o a m st w v st' := by
  obtain ⟨i, zv, hi, hz0, hcv, hlen⟩ := czero_sound hz
  simp only [stepK] at hs
  cases hs
  obtain ⟨c1, c2⟩ := cvals_sound hcv E.rl m
  have hl : LR E.rl m z zv.cells := ⟨by simp [c1], fun j u hu => by simpa [Array.getD_eq_getD_getElem?, List.getD] using c2 j u hu⟩
  have hk : zv.cells.size = 1 * E.P.cellsOf e := by rw [← hl.1, hlen]; simp [Program.cellsOf, hi]
  have T := hr.newB hE (e := e) (K := 1) (.inl hl) hk st.lw st.lp
  refine ⟨rfl, .pointer (some ⟨w.heap.size, 0, none⟩), w.alloc (.cells zv.cells e), _, .inl ?_, .p _ _ ?_, T⟩
  · simp [execOp, ho, Instr.alloc, run_zero hi hz0, newVar, newRow]
  · simp [addr, ← hr.len]

theorem stp_bx {e : TypeId} {n : Nat} {x : Operand} {x' : AOpd} (hE : E.Ok) (hr : HR E m st.h w) (ho : o.op = .box e x) (hn : csize E.P e = some n) (hx : copd x = some x')
    (ht : TRk E.rl m st.t a (opdT x')) (hs : stepK E.ro st (.bx e n x') = some (v, st')) : Stp E o a m st w v st' := by
  have rx := copd_sound hx ht
  simp only [stepK, st_bx] at hs
  cases hc : Nat.beq (opd st.t x').cells.length n
  · rw [hc] at hs; cases hs
  rw [hc] at hs
  cases hs
  have hc' := Nat.eq_of_beq_eq_true hc
  have hl := rx.cells
  have T := hr.newB hE (e := e) (K := 1) (.inl hl) (by rw [← hl.1, hc', csize_cells hn]; simp) st.lw st.lp
  refine ⟨rfl, .pointer (some ⟨w.heap.size, 0, none⟩), w.alloc (.cells (a.eval x).cells e), _, .inl ?_, .p _ _ ?_, T⟩
  · simp [execOp, ho, Instr.box, newVar, newRow]
  · simp [addr, ← hr.len]

theorem stp_bsl {ty e : TypeId} {n s : Nat} {parts : Array (Nat × Operand)} {z : List AVal} {ps : List ((Nat × Nat) × AOpd)} (hE : E.Ok) (hr : HR E m st.h w) (ho : o.op = .buildSlice ty n parts)
    (hu : E.P.underlying ty = some (.slice e)) (hz : czero E.P e = some z) (hsz : csize E.P e = some s) (hp : cparts (fun i => some (i * s, s)) parts.toList = some ps) (hb : n * s ≤ 16777216) (h0 : 0 < s)
    (ht : TRk E.rl m st.t a (ps.flatMap fun p => opdT p.2)) (hs : stepK E.ro st (.bsl e s z n ps) = some (v, st')) : Stp E o a m st w v st' := by
  obtain ⟨i, zv, hi, hz0, hcv, hlen⟩ := czero_sound hz
  simp only [stepK, st_bsl] at hs
  split at hs
  · rename_i cs hf
    cases hs
    obtain ⟨c1, c2⟩ := cvals_sound hcv E.rl m
    have hl : LR E.rl m z zv.cells := ⟨by simp [c1], fun j u hu => by simpa [Array.getD_eq_getD_getElem?, List.getD] using c2 j u hu⟩
    have his : i.size = s := by obtain ⟨i', h1, h2⟩ := csize_info hsz; rw [hi] at h1; cases h1; exact h2
    have hzl : z.length = s := by rw [hlen, his]
    have hrep := rep_sound hl n (n * s) (by rw [hzl])
    obtain ⟨k1, k2⟩ := cparts_sound hp ht
    have hrep0 : LR E.rl m (rep z n) ((Array.range (n * s)).map ((if n * s = 0 then #[] else zv.cells)[· % (if n * s = 0 then #[] else zv.cells).size]!)) := by
      by_cases hns : n * s = 0
      · have hn0 : n = 0 := by
          rcases Nat.mul_eq_zero.1 hns with h | h
          · exact h
          · omega
        subst hn0
        simp only [Nat.zero_mul]
        exact ⟨by simp [rep], by simp [rep]⟩
      · simp only [hns, if_false]; exact hrep
    obtain ⟨z1', f1, f2⟩ := fill_sound (place := fun i => some (i * s, s)) _ (parts.toList.map fun x => (x.1, a.eval x.2)) (rep z n) cs _ (by simp [k1]) (fun i p hp => by
      obtain ⟨q, q1, q2, q3⟩ := k2 i p hp
      exact ⟨q, q1, q2, q3⟩) hrep0 hf
    have hcl : cs.length = n * s := by rw [length_fillA hf, length_rep, hzl]
    have T := hr.newB hE (e := e) (K := n) (.inl f2) (by rw [← f2.1, hcl, csize_cells hsz]) st.lw st.lp
    have hparts : (parts.map fun x => (x.1, a.eval x.2)).toList = parts.toList.map fun x => (x.1, a.eval x.2) := by simp
    refine ⟨rfl, .slice (some ⟨w.heap.size, 0, none⟩) n n, w.alloc (.cells z1' e), _, .inl ?_, .slk _ _ _ _ ?_, T⟩
    · have hno : ¬ (n * s > 2 ^ 24) := by simp; omega
      by_cases hns : n * s = 0
      · simp only [hns, if_true] at f1
        simp only [execOp, ho, Instr.buildSlice, Sem.run_bind, run_und hu, Result.andThen_ok, csize_sound hsz, hns, if_true, Sem.run_pure, Sem.run_ite]
        rw [hparts, f1]
        simp [newRow]
      · simp only [hns, if_false] at f1
        simp only [execOp, ho, Instr.buildSlice, Sem.run_bind, run_und hu, Result.andThen_ok, csize_sound hsz, hno, if_false, hns, run_zero hi hz0, Sem.run_pure, Sem.run_ite]
        rw [hparts, f1]
        simp [newRow]
    · simp [addr, ← hr.len]
  · cases hs

theorem stp_st {ty : TypeId} {n : Nat} {x y : Operand} {x' y' : AOpd} (hr : HR E m st.h w) (ho : o.op = .store ty x y) (hn : csize E.P ty = some n) (hx : copd x = some x') (hy : copd y = some y')
    (ht : TRk E.rl m st.t a (opdT x' ++ opdT y')) (hs : stepK E.ro st (.st n x' y') = some (v, st')) : Stp E o a m st w v st' := by
  have rx := copd_sound hx (rl := E.rl) (m := m) (t := st.t) (a := a) (ht.mem fun n hn => by simp [hn])
  have ry := copd_sound hy (rl := E.rl) (m := m) (t := st.t) (a := a) (ht.mem fun n hn => by simp [hn])
  simp only [stepK] at hs
  split at hs
  · rename_i q e
    simp only [st_st] at hs
    cases hc : Nat.beq (opd st.t y').cells.length n
    · rw [hc] at hs; cases hs
    rw [hc] at hs
    simp only [cond_true] at hs
    split at hs
    · rename_i h hw
      cases hs
      rw [e] at rx
      obtain ⟨p, e', hp⟩ := rx.inv_p
      have hl := ry.cells
      have hc' := Nat.eq_of_beq_eq_true hc
      obtain ⟨w', h1, T⟩ := wrH_sound hr hp hl hw st.lw st.lp
      have hsz : (a.eval y).cells.size = n := by rw [← hl.1]; exact hc'
      refine ⟨rfl, undef, w', m, .inr ⟨?_, rfl⟩, VR.und _ _, T⟩
      simp [execOp, ho, e', Instr.storeAt, Instr.sureAddr, storeVar, csize_sound hn, hsz, h1]
    · cases hs
  · cases hs

theorem stp_mk {ty e : TypeId} {s by_ : Nat} {l c : Operand} {l' c' : AOpd} {z : List AVal} (hE : E.Ok) (hr : HR E m st.h w) (ho : o.op = .makeSlice ty l c) (hu : E.P.underlying ty = some (.slice e)) (hsz : csize E.P e = some s)
    (hby : cbytes E.P e = some by_) (hz : czero E.P e = some z) (hl : copd l = some l') (hc : copd c = some c') (ht : TRk E.rl m st.t a (opdT l' ++ opdT c')) (hs : stepK E.ro st (.mk e s by_ z l' c') = some (v, st')) : Stp E o a m st w v st' := by
  have rl' := copd_sound hl (rl := E.rl) (m := m) (t := st.t) (a := a) (ht.mem fun n hn => by simp [hn])
  have rc := copd_sound hc (rl := E.rl) (m := m) (t := st.t) (a := a) (ht.mem fun n hn => by simp [hn])
  obtain ⟨i, zv, hi, hz0, hcv, hlen⟩ := czero_sound hz
  simp only [stepK, st_mk] at hs
  split at hs
  · rename_i kl ln e1
    split at hs
    · rename_i kc cn e2
      split at hs
      · rename_i ln'
        split at hs
        · rename_i cn'
          cases hcond : (Nat.ble ln' cn' && Nat.ble cn' 1048576 && Nat.ble (cn' * by_) 281474976710656)
          · rw [hcond] at hs; cases hs
          rw [hcond] at hs
          cases hs
          simp only [Bool.and_eq_true] at hcond
          obtain ⟨⟨g1, g2⟩, g3⟩ := hcond
          have g1 := Nat.le_of_ble_eq_true g1
          have g2 := Nat.le_of_ble_eq_true g2
          have g3 := Nat.le_of_ble_eq_true g3
          rw [e1] at rl'; rw [e2] at rc
          obtain ⟨c1, c2⟩ := cvals_sound hcv E.rl m
          have hlz : LR E.rl m z zv.cells := ⟨by simp [c1], fun j u hu => by simpa [Array.getD_eq_getD_getElem?, List.getD] using c2 j u hu⟩
          have his : i.size = s := by obtain ⟨i', h1, h2⟩ := csize_info hsz; rw [hi] at h1; cases h1; exact h2
          have hib : i.bytes = by_ := by simpa [cbytes, hi] using hby
          have hzl : z.length = s := by rw [hlen, his]
          have hrep := rep_sound hlz cn' (cn' * s) (by rw [hzl])
          have hmk := run_make (P := E.P) w ty e i zv hu hi hz0 kl kc (ln' : Int) (cn' : Int) (by omega) (by omega) (by
            have : ((i.bytes * cn' : Nat) : Int) ≤ 281474976710656 := by rw [hib, Nat.mul_comm]; exact Int.ofNat_le.2 g3
            simpa using this) (by omega)
          have T := hr.newB hE (e := e) (K := cn') (cs := rep z cn') (cs' := madeCells zv.cells (cn' * i.size)) (.inl (by rw [his]; exact hrep)) (by rw [size_madeCells, his, csize_cells hsz]) st.lw st.lp
          refine ⟨rfl, .slice (some ⟨w.heap.size, 0, none⟩) ln' cn', _, _, .inl ?_, .slk _ _ _ _ ?_, T⟩
          · have ea : a.eval l = .int kl (ln' : Int) := rl'.inv_i
            have eb : a.eval c = .int kc (cn' : Int) := rc.inv_i
            simp only [execOp, ho, ea, eb, Sem.run_bind, hmk, Result.andThen_ok]
            rfl
          · simp [addr, ← hr.len]
        · cases hs
      · cases hs
    · cases hs
  · cases hs

end
end Go.Vm

/- All operations that touch no memory, in one word. -/
import Derived.Test.YtageakoepjkkbaaVmH
import Derived.Test.YtageakoepjkkbaaVmFS
import Derived.Laws.StructEq
import Derived.ChangeKeysEq
namespace Go.Vm
open Go.RowKit

section
variable {P : Program} {a : Act} {o : Oper} {rl : Rl} {m : M} {t : Tr} {v : AVal}

theorem pur_mki {x : Operand} {y : AOpd} {ty : TypeId} {d : TypeDesc} (ho : o.op = .makeInterface ty x) (hu : P.underlying ty = some d) (hn : ∀ ms, d ≠ .interface ms) (hc : copd x = some y) (ht : TRk rl m t a (opdT y)) (hv : AVal.ifc ty (opd t y) = v) : Pur P a o rl m v := by
  subst hv
  refine ⟨.iface ty (a.eval x), fun w => ?_, .ifc _ _ _ (copd_sound hc ht)⟩
  simp only [execOp, ho, Instr.makeInterface, Sem.run_bind, run_und hu, Result.andThen_ok]
  cases d <;> first | rfl | exact absurd rfl (hn _)

theorem cagg_int {ty : TypeId} (h : isIntT P ty = true) : cagg P ty = some false ∧ ∃ k, P.underlying ty = some (.int k) := by
  unfold isIntT at h
  split at h
  · rename_i k hk; exact ⟨by simp [cagg, hk], k, hk⟩
  · cases h

theorem part_int {ty : TypeId} (h : isIntT P ty = true) {cs : List AVal} {cs' : Array Value} (hl : cs.length = cs'.size) (hcs : ∀ i v, cs[i]? = some v → VR rl m v (cs'.getD i undef)) {off : Nat} {k : IntKind} {n : Int} (hg : lget cs off = some (.i k n)) (w : World) :
    (part ty cs' off).run P w = .ok (.int k n) w := by
  rw [lget_eq] at hg
  have hi : off < cs'.size := by rw [← hl]; exact (List.getElem?_eq_some_iff.1 hg).1
  have hv := (hcs _ _ hg).inv_i
  have : cs'[off]? = some (.int k n) := by
    rw [← hv]; simp [Array.getD_eq_getD_getElem?, hi]
  simp [part, cagg_sound (cagg_int h).1, this]

theorem seqA_append {bs : List Nat} {xs ys : List AVal} {r : Bool} : ∀ {as : List Nat}, seqA (as ++ bs) xs ys = some r → ∃ r1, seqA as xs ys = some r1 ∧ (r1 = false → r = false) ∧ (r1 = true → seqA bs xs ys = some r)
  | [], h => ⟨true, rfl, fun e => (by cases e), fun _ => h⟩
  | o :: as, h => by
    simp only [List.cons_append, seqA] at h ⊢
    split at h
    · rename_i k a ha
      split at h
      · rename_i k' b hb
        cases hk : kEq k k' <;> rw [hk] at h
        · cases h
        simp only [cond_true] at h ⊢
        cases hab : eqI a b <;> rw [hab] at h
        · cases h; exact ⟨false, by simp, fun _ => rfl, fun e => by cases e⟩
        · simpa using seqA_append h
      · cases h
    · cases h
theorem seqA_shift {off s : Nat} {xs ys : List AVal} : ∀ {os : List Nat}, (os.all fun o => Nat.blt o s) = true → seqA (os.map (off + ·)) xs ys = seqA os ((xs.drop off).take s) ((ys.drop off).take s)
  | [], _ => rfl
  | o :: os, h => by
    simp only [List.all_cons, Bool.and_eq_true, Nat.blt_eq] at h
    have hx : ∀ l : List AVal, lget ((l.drop off).take s) o = lget l (off + o) := fun l => by
      rw [lget_eq, lget_eq, List.getElem?_take_of_lt h.1, List.getElem?_drop]
    simp only [List.map_cons, seqA, hx, seqA_shift h.2]
theorem vrs_sub {off s : Nat} {xs : List AVal} {xs' : Array Value} (lx : xs.length = xs'.size) (hx : ∀ i v, xs[i]? = some v → VR rl m v (xs'.getD i undef)) :
    ((xs.drop off).take s).length = (xs'.extract off (off + s)).size ∧ ∀ i v, ((xs.drop off).take s)[i]? = some v → VR rl m v ((xs'.extract off (off + s)).getD i undef) := by
  refine ⟨by simp; omega, fun i v hv => ?_⟩
  rw [List.getElem?_take] at hv
  split at hv
  · rename_i hi
    rw [List.getElem?_drop] at hv
    have hlt : off + i < xs.length := (List.getElem?_eq_some_iff.1 hv).1
    have := hx _ _ hv
    have e : (xs'.extract off (off + s)).getD i undef = xs'.getD (off + i) undef := by
      rw [Array.getD_eq_getD_getElem?, Array.getD_eq_getD_getElem?, Array.getElem?_extract, if_pos (by omega)]
    rw [e]; exact this
  · cases hv
/-- what is known of a comparison by cells, d deep -/
def CmpOk (P : Program) (rl : Rl) (m : M) (k : Nat) : Prop := ∀ (t : TypeId) (os : List Nat), cmpOffs P k t = some os → cagg P t = some true → ∀ (w : World) (d : Nat) (xs ys : List AVal) (xs' ys' : Array Value) (r : Bool),
  xs.length = xs'.size → (∀ i v, xs[i]? = some v → VR rl m v (xs'.getD i undef)) → ys.length = ys'.size → (∀ i v, ys[i]? = some v → VR rl m v (ys'.getD i undef)) → seqA os xs ys = some r →
  (Op.equalIn (d + k) t (.agg xs') (.agg ys')).run P w = .ok r w
theorem cmp_part {k : Nat} (ih : CmpOk P rl m k) {t : TypeId} {os : List Nat} {s : Nat} (hc : cmpOffs P k t = some os) (hs : csize P t = some s) (ha : (os.all fun o => Nat.blt o s) = true) (w : World) (d off : Nat) {xs ys : List AVal} {xs' ys' : Array Value} {r : Bool}
    (lx : xs.length = xs'.size) (hx : ∀ i v, xs[i]? = some v → VR rl m v (xs'.getD i undef)) (ly : ys.length = ys'.size) (hy : ∀ i v, ys[i]? = some v → VR rl m v (ys'.getD i undef)) (h : seqA (os.map (off + ·)) xs ys = some r) :
    ∃ X Y, (part t xs' off).run P w = .ok X w ∧ (part t ys' off).run P w = .ok Y w ∧ (Op.equalIn (d + k) t X Y).run P w = .ok r w := by
  cases k with
  | zero => simp [cmpOffs] at hc
  | succ k =>
    have agg : cagg P t = some true → ∃ X Y, (part t xs' off).run P w = .ok X w ∧ (part t ys' off).run P w = .ok Y w ∧ (Op.equalIn (d + (k + 1)) t X Y).run P w = .ok r w := fun hag => by
      obtain ⟨l1, g1⟩ := vrs_sub (rl := rl) (m := m) (off := off) (s := s) lx hx
      obtain ⟨l2, g2⟩ := vrs_sub (rl := rl) (m := m) (off := off) (s := s) ly hy
      rw [seqA_shift ha] at h
      exact ⟨.agg (xs'.extract off (off + s)), .agg (ys'.extract off (off + s)), by simp [part, cagg_sound hag, csize_sound hs], by simp [part, cagg_sound hag, csize_sound hs], ih t os hc hag w d _ _ _ _ r l1 g1 l2 g2 h⟩
    have hc0 := hc
    unfold cmpOffs at hc
    split at hc
    · rename_i k0 hu
      cases hc
      have hi : isIntT P t = true := by simp [isIntT, hu]
      simp only [List.map_cons, List.map_nil, Nat.add_zero, seqA] at h
      split at h
      · rename_i q a ha
        split at h
        · rename_i q' b hb
          cases hk : kEq q q' <;> rw [hk] at h
          · cases h
          have hkk := (kEq_iff q q').1 hk
          subst hkk
          have hr : (a == b) = r := by
            simp only [cond_true, eqI_eq] at h
            cases hab : (a == b) <;> rw [hab] at h <;> cases h <;> rfl
          exact ⟨_, _, part_int hi lx hx ha w, part_int hi ly hy hb w, by rw [← hr]; exact run_equalIn_int w (d + k) t q k0 a b hu⟩
        · cases h
      · cases h
    · rename_i fs hu; exact agg (by simp [cagg, hu])
    · rename_i n e hu; exact agg (by simp [cagg, hu])
    · cases hc
theorem cmpFs_sound {k : Nat} (ih : CmpOk P rl m k) (w : World) (d : Nat) {xs ys : List AVal} {xs' ys' : Array Value} (lx : xs.length = xs'.size) (hx : ∀ i v, xs[i]? = some v → VR rl m v (xs'.getD i undef)) (ly : ys.length = ys'.size) (hy : ∀ i v, ys[i]? = some v → VR rl m v (ys'.getD i undef)) :
    ∀ (fs : List Field) (os : List Nat) (r : Bool), cmpFs P (cmpOffs P k) fs = some os → seqA os xs ys = some r → (Op.eqFields (d + k) xs' ys' fs).run P w = .ok r w
  | [], os, r, hc, h => by cases hc; cases h; rfl
  | f :: fs, os, r, hc, h => by
    unfold cmpFs at hc
    split at hc
    · cases hc
    rename_i hn
    split at hc
    · rename_i s hs
      split at hc
      · rename_i os1 h1
        split at hc
        · rename_i os2 h2
          split at hc
          · rename_i hall
            cases hc
            obtain ⟨r1, e1, e2, e3⟩ := seqA_append h
            obtain ⟨X, Y, p1, p2, p3⟩ := cmp_part ih h1 hs hall w d f.offset lx hx ly hy e1
            simp only [Op.eqFields, if_pos hn, Sem.run_bind, p1, p2, p3, Result.andThen_ok]
            cases r1
            · rw [e2 rfl]; simp
            · simpa using cmpFs_sound ih w d lx hx ly hy fs os2 r h2 (e3 rfl)
          · cases hc
        · cases hc
      · cases hc
    · cases hc
theorem cmpItems_sound {k : Nat} (ih : CmpOk P rl m k) (w : World) (d : Nat) {e : TypeId} {os : List Nat} {s : Nat} (hc : cmpOffs P k e = some os) (hs : csize P e = some s) (ha : (os.all fun o => Nat.blt o s) = true) {xs ys : List AVal} {xs' ys' : Array Value} (lx : xs.length = xs'.size) (hx : ∀ i v, xs[i]? = some v → VR rl m v (xs'.getD i undef)) (ly : ys.length = ys'.size) (hy : ∀ i v, ys[i]? = some v → VR rl m v (ys'.getD i undef)) :
    ∀ (is : List Nat) (r : Bool), seqA (is.flatMap fun i => os.map (i * s + ·)) xs ys = some r → (Op.eqItems (d + k) e s xs' ys' is).run P w = .ok r w
  | [], r, h => by cases h; simp [Op.eqItems]
  | i :: is, r, h => by
    rw [List.flatMap_cons] at h
    obtain ⟨r1, e1, e2, e3⟩ := seqA_append h
    obtain ⟨X, Y, p1, p2, p3⟩ := cmp_part ih hc hs ha w d (i * s) lx hx ly hy e1
    simp only [Op.eqItems, Sem.run_bind, p1, p2, p3, Result.andThen_ok]
    cases r1
    · rw [e2 rfl]; simp
    · simpa using cmpItems_sound ih w d hc hs ha lx hx ly hy is r (e3 rfl)
theorem cmp_ok : ∀ k, CmpOk P rl m k
  | 0 => fun t os hc => by simp [cmpOffs] at hc
  | k + 1 => fun t os hc hag w d xs ys xs' ys' r lx hx ly hy h => by
    unfold cmpOffs at hc
    split at hc
    · rename_i k0 hu; simp [cagg, hu] at hag
    · rename_i fs hu
      split at hc
      · cases hc
      rename_i hst
      have hf : P.fieldsOf t = fs := by simp [Program.fieldsOf, hu]
      show (Op.equalIn ((d + k) + 1) t (.agg xs') (.agg ys')).run P w = _
      rw [run_equalIn_struct w (d + k) t xs' ys' (by rw [hf]; exact hu) (by simpa using hst), hf]
      exact cmpFs_sound (cmp_ok k) w d lx hx ly hy fs.toList os r hc h
    · rename_i n e hu
      split at hc
      · rename_i s hs
        split at hc
        · rename_i os1 h1
          split at hc
          · rename_i hall
            cases hc
            obtain ⟨i, hi, hsz⟩ := csize_info hs
            have hce : P.cellsOf e = s := by simp [Program.cellsOf, hi, hsz]
            show (Op.equalIn ((d + k) + 1) t (.agg xs') (.agg ys')).run P w = _
            rw [run_equalIn_array w (d + k) xs' ys' hu hi, hce]
            exact cmpItems_sound (cmp_ok k) w d h1 hs hall lx hx ly hy _ r h
          · cases hc
        · cases hc
      · cases hc
    · cases hc

theorem pur_seq {x y : Operand} {x' y' : AOpd} {ty ty' : TypeId} {ng : Bool} {os : List Nat} (ho : o.op = .binOp (if ng then .neq else .eql) ty x y ty') (hag : cagg P ty = some true) (h2 : P.eqGuardType P.depth ty = false)
    (h3 : cmpOffs P 4 ty = some os) (hx : copd x = some x') (hy : copd y = some y')
    (ht : TRk rl m t a (opdT x' ++ opdT y')) (hv : ev_seq t ng os x' y' = some v) : Pur P a o rl m v := by
  have rx := copd_sound hx (rl := rl) (m := m) (t := t) (a := a) (ht.mem fun n hn => by simp [hn])
  have ry := copd_sound hy (rl := rl) (m := m) (t := t) (a := a) (ht.mem fun n hn => by simp [hn])
  unfold ev_seq at hv
  split at hv
  · rename_i xs e1
    split at hv
    · rename_i ys e2
      split at hv
      · rename_i r hr
        cases hv
        rw [e1] at rx; rw [e2] at ry
        obtain ⟨xs', ex, lx, qx⟩ := rx.inv_agg
        obtain ⟨ys', ey, ly, qy⟩ := ry.inv_agg
        have heq : ∀ w, (Op.equal ty (.agg xs') (.agg ys')).run P w = .ok r w := fun w =>
          cmp_ok 4 ty os h3 hag w 9996 xs ys xs' ys' r lx qx ly qy hr
        refine ⟨.bool (if ng then !r else r), fun w => ?_, .b _⟩
        cases ng <;> simp [execOp, ho, ex, ey, eqGuard, binOp, heq, h2]
      · cases hv
    · cases hv
  · cases hv

theorem follow_sound : ∀ (ps : List FieldStep) (t : TypeId) (l : List (Nat × Nat × Bool)) (xt : TypeId) (v r : AVal) (v' : Value), c_path P ps t = some (l, xt) → followA l v = some r → VR rl m v v' →
    ∃ r', VR rl m r r' ∧ ∀ w, (follow ps t (.val v')).run P w = .ok (xt, .val r') w
  | [], t, l, xt, v, r, v', hp, hf, hv => by
    cases hp; cases hf
    exact ⟨v', hv, fun w => rfl⟩
  | s :: ps, t, l, xt, v, r, v', hp, hf, hv => by
    unfold c_path at hp
    split at hp
    · cases hp
    rename_i hd
    split at hp
    · rename_i fs hu
      split at hp
      · rename_i f hfi
        split at hp
        · rename_i ag hag
          split at hp
          · rename_i n hn
            split at hp
            · rename_i l' t' hrest
              cases hp
              unfold followA at hf
              split at hf
              · rename_i cs
                split at hf
                · rename_i u hpa
                  obtain ⟨cs', rfl, hl, hcs⟩ := hv.inv_agg
                  obtain ⟨u', hpr, hur⟩ := partA_sound hag hn hl hcs hpa
                  obtain ⟨r', hr', hrun⟩ := follow_sound ps _ _ _ _ _ _ hrest hf hur
                  refine ⟨r', hr', fun w => ?_⟩
                  simp [follow, run_und hu, hfi, hd, hpr, hrun]
                · cases hf
              · cases hf
            · cases hp
          · cases hp
        · cases hp
      · cases hp
    · cases hp

theorem mrow_mem {ty f : Nat} {p : List (Nat × Nat × Bool)} : ∀ {tab : List MRow}, mrow tab ty = some (f, p) → (ty, f, p) ∈ tab
  | [], h => by cases h
  | (t, g, q) :: l, h => by
    unfold mrow at h
    cases hb : Nat.beq t ty <;> rw [hb] at h
    · exact List.mem_cons_of_mem _ (mrow_mem h)
    · cases h
      have := Nat.eq_of_beq_eq_true hb
      subst this
      exact List.mem_cons_self

theorem c_row_sound {name : String} {ty f : Nat} {p : List (Nat × Nat × Bool)} (h : (ty, f, p) ∈ c_rows P name) {v r : AVal} {v' : Value} (hf : followA p v = some r) (hv : VR rl m v v') :
    ∃ r', VR rl m r r' ∧ ∀ (d : Nat) w, (method (d + 1) ty v' name).run P w = .ok (f, r') w := by
  unfold c_rows at h
  rw [List.mem_filterMap] at h
  obtain ⟨t, -, h⟩ := h
  unfold c_row at h
  split at h
  · rename_i i hi
    split at h
    · rename_i mr hmr
      split at h
      · rename_i f' hfn
        split at h
        · rename_i p' xt hp
          split at h
          · cases h
          · rename_i dsc hnp hu
            cases h
            obtain ⟨r', hr', hrun⟩ := follow_sound _ _ _ _ _ _ _ hp hf hv
            refine ⟨r', hr', fun d w => ?_⟩
            have hrec : ∀ nm, (receiverAt xt (.val r') false nm).run P w = .ok r' w := by
              intro nm
              simp only [receiverAt, Sem.run_bind, run_und hu, Result.andThen_ok]
              cases dsc <;> first | rfl | exact absurd rfl (hnp _)
            simp [method, typeInfo, hi, hmr, hrun, hfn, hrec]
          · cases h
        · cases h
      · cases h
    · cases h
  · cases h

theorem mget_sound {name : String} {v r : AVal} {v' : Value} {f : Nat} (hv : VR rl m v v') (h : mget (c_rows P name) v = some (f, r)) :
    ∃ ty u r', v' = .iface ty u ∧ (∀ (d : Nat) w, (method (d + 1) ty u name).run P w = .ok (f, r') w) ∧ VR rl m r r' := by
  unfold mget at h
  split at h
  · rename_i ty u
    split at h
    · rename_i g p hm
      split at h
      · rename_i r0 hf
        cases h
        obtain ⟨u', rfl, hu⟩ := hv.inv_ifc
        obtain ⟨r', hr', h2⟩ := c_row_sound (mrow_mem hm) hf hu
        exact ⟨ty, u', r', rfl, h2, hr'⟩
      · cases h
    · cases h
  · cases h


theorem followBlind_sound : ∀ (ps : List FieldStep) (t : TypeId) (l : List (Nat × Nat × Bool)) (xt : TypeId) (v r : AVal) (v' : Value), c_path P ps t = some (l, xt) → followA l v = some r → VR rl m v v' →
    ∃ r', ∀ w, (followBlind ps t (some v')).run P w = .ok (.ok (xt, some r')) w
  | [], t, l, xt, v, r, v', hp, hf, hv => by
    cases hp; cases hf
    exact ⟨v', fun w => rfl⟩
  | s :: ps, t, l, xt, v, r, v', hp, hf, hv => by
    unfold c_path at hp
    split at hp
    · cases hp
    rename_i hd
    split at hp
    · rename_i fs hu
      split at hp
      · rename_i f hfi
        split at hp
        · rename_i ag hag
          split at hp
          · rename_i n hn
            split at hp
            · rename_i l' t' hrest
              cases hp
              unfold followA at hf
              split at hf
              · rename_i cs
                split at hf
                · rename_i u hpa
                  obtain ⟨cs', rfl, hl, hcs⟩ := hv.inv_agg
                  obtain ⟨u', hpr, hur⟩ := partA_sound hag hn hl hcs hpa
                  obtain ⟨r', hrun⟩ := followBlind_sound ps _ _ _ _ _ _ hrest hf hur
                  refine ⟨r', fun w => ?_⟩
                  simp [followBlind, run_und hu, hfi, hd, hpr, hrun]
                · cases hf
              · cases hf
            · cases hp
          · cases hp
        · cases hp
      · cases hp
    · cases hp

theorem nilAhead_sound {name : String} {ty f : Nat} {p : List (Nat × Nat × Bool)} (h : (ty, f, p) ∈ c_rows P name) {v r : AVal} {v' : Value} (hf : followA p v = some r) (hv : VR rl m v v') (d : Nat) (w : World) :
    (nilAhead (d + 1) ty v' name).run P w = .ok (some false) w := by
  unfold c_rows at h
  rw [List.mem_filterMap] at h
  obtain ⟨t, -, h⟩ := h
  unfold c_row at h
  split at h
  · rename_i i hi
    split at h
    · rename_i mr hmr
      split at h
      · rename_i f' hfn
        split at h
        · rename_i p' xt hp
          split at h
          · cases h
          · rename_i dsc hnp hu
            cases h
            obtain ⟨r', hrun⟩ := followBlind_sound _ _ _ _ _ _ _ hp hf hv
            simp only [nilAhead, typeInfo, Sem.run_bind, run_program, Result.andThen_ok, hi, hmr, Sem.run_pure, hrun, hfn, run_und hu]
            cases dsc <;> first | rfl | exact absurd rfl (hnp _)
          · cases h
        · cases h
      · cases h
    · cases h
  · cases h

theorem mtabF_mem {tab : List MRow} {s : String} : ∀ {tabs : List (String × List MRow)}, mtabF tabs s = some tab → (s, tab) ∈ tabs
  | [], h => by cases h
  | (n, t) :: l, h => by
    unfold mtabF at h
    split at h
    · rename_i e
      cases h
      have := eq_of_beq e
      subst this
      exact List.mem_cons_self
    · exact List.mem_cons_of_mem _ (mtabF_mem h)

theorem c_meths_mem {tab : List MRow} {s : String} (h : (s, tab) ∈ c_meths P) : tab = c_rows P s := by
  unfold c_meths at h
  obtain ⟨h, -⟩ := List.mem_filter.1 h
  obtain ⟨n, -, e⟩ := List.mem_map.1 h
  cases e; rfl

theorem pur_nilm {x : Operand} {y : AOpd} (ho : o.op = .nilCheck x) (hc : copd x = some y) (ht : TRk rl m t a (opdT y)) (hv : ev_nilm t (c_meths P) y = some v) : Pur P a o rl m v := by
  unfold ev_nilm at hv
  split at hv
  · rename_i name u e
    split at hv
    · rename_i tab htab
      split at hv
      · rename_i g hg
        cases hv
        have rx := copd_sound hc ht
        rw [e] at rx
        obtain ⟨u', e', hu⟩ := rx.inv_bm
        have := c_meths_mem (mtabF_mem htab)
        subst this
        unfold mget at hg
        split at hg
        · rename_i ty uu
          split at hg
          · rename_i f p hm
            split at hg
            · rename_i r hf
              obtain ⟨w', rfl, hw⟩ := hu.inv_ifc
              refine ⟨a.eval x, fun w => ?_, by rw [e']; exact .bm _ _ _ (.ifc _ _ _ hw)⟩
              obtain ⟨d, hd⟩ : ∃ d, P.types.size + Made.depth = d + 1 := ⟨P.types.size + (Made.depth - 1), by unfold Made.depth; omega⟩
              have hn := nilAhead_sound (mrow_mem hm) hf hw d w
              simp [execOp, ho, e', hd, hn]
            · cases hg
          · cases hg
        · cases hg
      · cases hv
    · cases hv
  · exact pur_nilck ho hc ht hv

theorem pur_mkbm {x : Operand} {y : AOpd} {name : String} {fs cs : Array Operand} (ho : o.op = .makeFunc (.method name) fs cs) (hf : fs.toList = [x]) (hcs : cs.toList = []) (hc : copd x = some y) (ht : TRk rl m t a (opdT y)) (hv : AVal.bm name (opd t y) = v) : Pur P a o rl m v := by
  subst hv
  have e1 : fs = #[x] := by rw [← Array.toArray_toList (xs := fs), hf]
  have e2 : cs = #[] := by rw [← Array.toArray_toList (xs := cs), hcs]
  subst e1; subst e2
  exact ⟨.func (.method name) #[a.eval x] #[], fun w => by simp [execOp, ho, Instr.makeFunc], .bm _ _ _ (copd_sound hc ht)⟩

theorem pur_mx3 {x y z : Operand} {x' y' z' : AOpd} {mxm : Bool} {ts : Array TypeId} (ho : o.op = .call { callee := .builtin (if mxm then .max else .min), args := #[x, y, z], argTypes := ts }) (hx : copd x = some x') (hy : copd y = some y') (hz : copd z = some z')
    (ht : TRk rl m t a (opdT x' ++ opdT y' ++ opdT z')) (hv : ev_mx3 t mxm x' y' z' = some v) : Pur P a o rl m v := by
  have rx := copd_sound hx (rl := rl) (m := m) (t := t) (a := a) (ht.mem fun n hn => by simp [hn])
  have ry := copd_sound hy (rl := rl) (m := m) (t := t) (a := a) (ht.mem fun n hn => by simp [hn])
  have rz := copd_sound hz (rl := rl) (m := m) (t := t) (a := a) (ht.mem fun n hn => by simp [hn])
  unfold ev_mx3 at hv
  split at hv
  · rename_i k p k' q k'' r e1 e2 e3
    rw [e1] at rx; rw [e2] at ry; rw [e3] at rz
    cases hk : (kEq k k' && kEq k k'') <;> rw [hk] at hv
    · cases hv
    simp only [Bool.and_eq_true] at hk
    obtain ⟨h1, h2⟩ := hk
    have h1 := (kEq_iff _ _).1 h1
    have h2 := (kEq_iff _ _).1 h2
    subst h1; subst h2
    cases hv
    rw [mkI_eq]
    refine ⟨_, fun w => ?_, .i _ _⟩
    cases mxm <;> simp [execOp, ho, resolve, invoke, builtin, rx.inv_i, ry.inv_i, rz.inv_i, Builtin.max_, Builtin.max2, Builtin.min_, Builtin.min2, mxI]
  · cases hv

theorem pure_sound {k : PK} (hk : compK P o.op = some (.pure k)) (ht : TRk rl m t a k.looks) (hv : evP t k = some v) : Pur P a o rl m v := by
  generalize hop : o.op = op at hk
  cases op with
  | move x =>
    simp only [compK, Option.map_eq_some_iff, Kind.pure.injEq] at hk
    obtain ⟨y, hy, rfl⟩ := hk
    exact pur_mv (.inl hop) hy ht (by simpa [evP] using hv)
  | assign x =>
    simp only [compK, Option.map_eq_some_iff, Kind.pure.injEq] at hk
    obtain ⟨y, hy, rfl⟩ := hk
    exact pur_mv (.inr hop) hy ht (by simpa [evP] using hv)
  | pick c x y =>
    simp only [compK, bind, Option.bind_eq_some_iff, Option.some.injEq, Kind.pure.injEq] at hk
    obtain ⟨c', hc, x', hx, y', hy, rfl⟩ := hk
    exact pur_pick hop hc hx hy ht (by simpa [evP] using hv)
  | build ty parts =>
    simp only [compK, c_build, bind, Option.bind_eq_some_iff] at hk
    obtain ⟨z, hz, hk⟩ := hk
    split at hk
    · rename_i fs hu
      simp only [Option.bind_eq_some_iff] at hk
      obtain ⟨ps, hps, hk⟩ := hk
      split at hk
      · rename_i hall
        simp only [Option.some.injEq, Kind.pure.injEq] at hk
        subst hk
        rw [Array.all_eq_true_iff_forall_mem] at hall
        refine pur_build hop hz hu (.inl ⟨fs, rfl, fun f hf => hall f (by simpa using hf), ?_⟩) hps ht (by simpa [evP] using hv)
        intro i p hp
        simp only [Option.bind_eq_some_iff, Option.some.injEq] at hp
        obtain ⟨f, hf, s, hs, rfl⟩ := hp
        rw [List.getElem?_map]
        have : fs.toList[i]? = some f := by simpa using hf
        simp [this, csize_cells hs]
      · cases hk
    · rename_i n e hu
      simp only [Option.bind_eq_some_iff, Option.some.injEq, Kind.pure.injEq] at hk
      obtain ⟨s, hs, ps, hps, rfl⟩ := hk
      exact pur_build hop hz hu (.inr ⟨n, e, s, rfl, hs, fun i p hp => by simpa using hp.symm⟩) hps ht (by simpa [evP] using hv)
    · cases hk
  | nilCheck x =>
    simp only [compK, c_nilck] at hk
    split at hk
    · simp only [bind, Option.bind_eq_some_iff, Option.some.injEq, Kind.pure.injEq] at hk
      obtain ⟨y, hy, rfl⟩ := hk
      exact pur_nilck hop hy ht (by simpa [evP] using hv)
    · simp only [bind, Option.bind_eq_some_iff, Option.some.injEq, Kind.pure.injEq] at hk
      obtain ⟨y, hy, rfl⟩ := hk
      exact pur_nilm hop hy ht (by simpa [evP] using hv)
  | binOp op ty x y ty' =>
    simp only [compK, c_bin] at hk
    have eqs : ∀ ng, op = (if ng then .neq else .eql) → c_eqs P ty ng x y = some (.pure k) → Pur P a o rl m v := by
      intro ng hop' hk
      rw [hop'] at hop
      simp only [c_eqs] at hk
      split at hk
      · rename_i hu
        simp only [bind, Option.bind_eq_some_iff, Option.some.injEq, Kind.pure.injEq] at hk
        obtain ⟨x', hx, y', hy, rfl⟩ := hk
        exact pur_beq (ng := ng) hop hu hx hy ht (by simpa [evP] using hv)
      · rename_i e hu
        split at hk
        · rename_i hn
          simp only [bind, Option.bind_eq_some_iff, Option.some.injEq, Kind.pure.injEq] at hk
          obtain ⟨x', hx, rfl⟩ := hk
          have hy : y = .const (.slice none 0 0) := by
            unfold isNilSl at hn
            split at hn
            · rfl
            · cases hn
          subst hy
          exact pur_nilcmp (ng := ng) hop hu hx ht (by simpa [evP] using hv)
        · cases hk
      · rename_i fs hu
        split at hk
        · cases hk
        · rename_i hc
          simp only [bind, Option.bind_eq_some_iff, Option.some.injEq, Kind.pure.injEq] at hk
          obtain ⟨os, hos, x', hx, y', hy, rfl⟩ := hk
          exact pur_seq (ng := ng) hop (by simp [cagg, hu]) (by simpa using hc) hos hx hy ht (by simpa [evP] using hv)
      · rename_i n e hu
        split at hk
        · cases hk
        · rename_i hc
          simp only [bind, Option.bind_eq_some_iff, Option.some.injEq, Kind.pure.injEq] at hk
          obtain ⟨os, hos, x', hx, y', hy, rfl⟩ := hk
          exact pur_seq (ng := ng) hop (by simp [cagg, hu]) (by simpa using hc) hos hx hy ht (by simpa [evP] using hv)
      · cases hk
    split at hk
    · rename_i ik hu
      simp only [bind, Option.bind_eq_some_iff, Option.some.injEq, Kind.pure.injEq] at hk
      obtain ⟨x', hx, y', hy, rfl⟩ := hk
      exact pur_bin hop hx hy ht (by simpa [evP] using hv)
    · rename_i hu
      simp only [bind, Option.bind_eq_some_iff, Option.some.injEq, Kind.pure.injEq] at hk
      obtain ⟨x', hx, y', hy, rfl⟩ := hk
      exact pur_sbin hop hx hy ht (by simpa [evP] using hv)
    · split at hk
      · exact eqs false rfl hk
      · exact eqs true rfl hk
      · cases hk
  | unOp uo ty x =>
    simp only [compK, c_un] at hk
    split at hk
    · simp only [bind, Option.bind_eq_some_iff, Option.some.injEq, Kind.pure.injEq] at hk
      obtain ⟨y, hy, rfl⟩ := hk
      exact pur_not hop hy ht (by simpa [evP] using hv)
    · simp only [bind, Option.bind_eq_some_iff, Option.some.injEq, Kind.pure.injEq] at hk
      obtain ⟨y, hy, rfl⟩ := hk
      exact pur_neg hop hy ht (by simpa [evP] using hv)
    · cases hk
  | convert src dst x =>
    simp only [compK, c_conv] at hk
    split at hk
    · rename_i k0 hs
      split at hk
      · rename_i k1 hd
        simp only [bind, Option.bind_eq_some_iff, Option.some.injEq, Kind.pure.injEq] at hk
        obtain ⟨y, hy, rfl⟩ := hk
        exact pur_conv hop hs hd hy ht (by simpa [evP] using hv)
      · rename_i hd
        simp only [bind, Option.bind_eq_some_iff, Option.some.injEq, Kind.pure.injEq] at hk
        obtain ⟨y, hy, rfl⟩ := hk
        exact pur_chr hop hs hd hy ht (by simpa [evP] using hv)
      · cases hk
    · rename_i hs
      split at hk
      · rename_i hd
        simp only [bind, Option.bind_eq_some_iff, Option.some.injEq, Kind.pure.injEq] at hk
        obtain ⟨y, hy, rfl⟩ := hk
        exact pur_mvS hop hs hd hy ht hv
      · cases hk
    · split at hk
      · split at hk
        · simp [Option.bind_eq_some_iff] at hk
        · cases hk
      · cases hk
    · cases hk
  | fieldAddr ty x fi =>
    simp only [compK, c_faddr] at hk
    split at hk
    · rename_i fs hu
      simp only [bind, Option.bind_eq_some_iff] at hk
      obtain ⟨fd, hfd, s, hs, hk⟩ := hk
      split at hk
      · cases hk
      · rename_i hs0
        simp only [Option.bind_eq_some_iff, Option.some.injEq, Kind.pure.injEq] at hk
        obtain ⟨y, hy, rfl⟩ := hk
        exact pur_faddr hop hu hfd hs hs0 hy ht (by simpa [evP] using hv)
    · cases hk
  | field ty x fi =>
    simp only [compK, c_field] at hk
    split at hk
    · rename_i fs hu
      simp only [bind, Option.bind_eq_some_iff, Option.some.injEq, Kind.pure.injEq] at hk
      obtain ⟨fd, hfd, ag, hag, s, hs, y, hy, rfl⟩ := hk
      exact pur_field hop hu hfd hag hs hy ht (by simpa [evP] using hv)
    · cases hk
  | indexAddr ty x ix =>
    simp only [compK, c_ixa] at hk
    split at hk
    · rename_i n e hu
      simp only [bind, Option.bind_eq_some_iff, Option.some.injEq, Kind.pure.injEq] at hk
      obtain ⟨s, hs, x', hx, y', hy, rfl⟩ := hk
      exact pur_ixA hop hu hs hx hy ht (by simpa [evP] using hv)
    · rename_i e hu
      simp only [bind, Option.bind_eq_some_iff, Option.some.injEq, Kind.pure.injEq] at hk
      obtain ⟨s, hs, x', hx, y', hy, rfl⟩ := hk
      exact pur_ixS hop hu hs hx hy ht (by simpa [evP] using hv)
    · cases hk
  | index ty x ix =>
    simp only [compK, c_ixv] at hk
    split at hk
    · rename_i n e hu
      simp only [bind, Option.bind_eq_some_iff, Option.some.injEq, Kind.pure.injEq] at hk
      obtain ⟨ag, hag, s, hs, x', hx, y', hy, rfl⟩ := hk
      exact pur_ixV hop hu hag hs hx hy ht (by simpa [evP] using hv)
    · rename_i hu
      simp only [bind, Option.bind_eq_some_iff, Option.some.injEq, Kind.pure.injEq] at hk
      obtain ⟨x', hx, y', hy, rfl⟩ := hk
      exact pur_ixStr hop hu hx hy ht (by simpa [evP] using hv)
    · cases hk
  | makeFunc fn fs cs =>
    simp only [compK, c_fn] at hk
    split at hk
    · simp only [bind, Option.bind_eq_some_iff, Option.some.injEq, Kind.pure.injEq] at hk
      obtain ⟨x', hx, y', hy, rfl⟩ := hk
      exact pur_mkfn hop hx hy ht (by simpa [evP] using hv)
    · split at hk
      · rename_i hfs
        split at hk
        · rename_i hcs
          simp only [bind, Option.bind_eq_some_iff, Option.some.injEq, Kind.pure.injEq] at hk
          obtain ⟨y, hy, rfl⟩ := hk
          exact pur_mkbm hop hfs hcs hy ht (by simpa [evP] using hv)
        · cases hk
      · cases hk
    · cases hk
  | slice ty x lo hi mx =>
    simp only [compK, c_slice, bind, Option.bind_eq_some_iff] at hk
    obtain ⟨lo', hlo, hi', hhi, mx', hmx, hk⟩ := hk
    split at hk
    · rename_i n e hu
      simp only [Option.bind_eq_some_iff] at hk
      obtain ⟨s, hs, hk⟩ := hk
      split at hk
      · cases hk
      · rename_i hmn
        simp only [Option.bind_eq_some_iff, Option.some.injEq, Kind.pure.injEq] at hk
        obtain ⟨x', hx, rfl⟩ := hk
        have : mx = none := by simpa using hmn
        subst this
        exact pur_slA hop hu hs hx hlo hhi ht (by simpa [evP] using hv)
    · rename_i e hu
      simp only [Option.bind_eq_some_iff, Option.some.injEq, Kind.pure.injEq] at hk
      obtain ⟨s, hs, x', hx, rfl⟩ := hk
      exact pur_slS hop hu hs hx hlo hhi hmx ht (by simpa [evP] using hv)
    · rename_i hu
      split at hk
      · cases hk
      · rename_i hmn
        simp only [Option.bind_eq_some_iff, Option.some.injEq, Kind.pure.injEq] at hk
        obtain ⟨x', hx, rfl⟩ := hk
        have : mx = none := by simpa using hmn
        subst this
        exact pur_slStr hop hu hx hlo hhi ht (by simpa [evP] using hv)
    · cases hk
  | makeInterface ty x =>
    simp only [compK, c_mki] at hk
    split at hk
    · cases hk
    · rename_i d hn hu
      simp only [bind, Option.bind_eq_some_iff, Option.some.injEq, Kind.pure.injEq] at hk
      obtain ⟨y, hy, rfl⟩ := hk
      exact pur_mki hop hu hn hy ht (by simpa [evP] using hv)
    · cases hk
  | extract x ix =>
    simp only [compK, bind, Option.bind_eq_some_iff, Option.some.injEq, Kind.pure.injEq] at hk
    obtain ⟨y, hy, rfl⟩ := hk
    exact pur_ext hop hy ht (by simpa [evP] using hv)
  | call c =>
    obtain ⟨cal, args, ats⟩ := c
    simp only [compK, c_call] at hk
    split at hk
    · simp only [c_len] at hk
      split at hk
      · rename_i x ha
        split at hk
        · rename_i ty hat
          have e1 : args = #[x] := by rw [← Array.toArray_toList (xs := args), ha]
          have e2 : ats = #[ty] := by rw [← Array.toArray_toList (xs := ats), hat]
          subst e1; subst e2
          split at hk
          · rename_i e hu
            simp only [bind, Option.bind_eq_some_iff, Option.some.injEq, Kind.pure.injEq] at hk
            obtain ⟨y, hy, rfl⟩ := hk
            exact pur_len (str := false) hop hu ⟨e, rfl⟩ hy ht (by simpa [evP] using hv)
          · rename_i hu
            simp only [bind, Option.bind_eq_some_iff, Option.some.injEq, Kind.pure.injEq] at hk
            obtain ⟨y, hy, rfl⟩ := hk
            exact pur_len (str := true) hop hu rfl hy ht (by simpa [evP] using hv)
          · cases hk
        · cases hk
      · cases hk
    · simp only [c_app] at hk
      split at hk
      · split at hk
        · split at hk
          · split at hk
            · simp only [bind, Option.bind_eq_some_iff] at hk
              obtain ⟨s, hs, hk⟩ := hk
              split at hk
              · cases hk
              · simp [Option.bind_eq_some_iff] at hk
            · cases hk
          · cases hk
        · cases hk
      · cases hk
    · simp only [c_mx] at hk
      split at hk
      · rename_i x y ha
        simp only [bind, Option.bind_eq_some_iff, Option.some.injEq, Kind.pure.injEq] at hk
        obtain ⟨x', hx, y', hy, rfl⟩ := hk
        have e1 : args = #[x, y] := by rw [← Array.toArray_toList (xs := args), ha]
        subst e1
        exact pur_mx (mxm := true) hop hx hy ht (by simpa [evP] using hv)
      · rename_i x y z ha
        simp only [bind, Option.bind_eq_some_iff, Option.some.injEq, Kind.pure.injEq] at hk
        obtain ⟨x', hx, y', hy, z', hz, rfl⟩ := hk
        have e1 : args = #[x, y, z] := by rw [← Array.toArray_toList (xs := args), ha]
        subst e1
        exact pur_mx3 (mxm := true) hop hx hy hz ht (by simpa [evP] using hv)
      · cases hk
    · simp only [c_mx] at hk
      split at hk
      · rename_i x y ha
        simp only [bind, Option.bind_eq_some_iff, Option.some.injEq, Kind.pure.injEq] at hk
        obtain ⟨x', hx, y', hy, rfl⟩ := hk
        have e1 : args = #[x, y] := by rw [← Array.toArray_toList (xs := args), ha]
        subst e1
        exact pur_mx (mxm := false) hop hx hy ht (by simpa [evP] using hv)
      · rename_i x y z ha
        simp only [bind, Option.bind_eq_some_iff, Option.some.injEq, Kind.pure.injEq] at hk
        obtain ⟨x', hx, y', hy, z', hz, rfl⟩ := hk
        have e1 : args = #[x, y, z] := by rw [← Array.toArray_toList (xs := args), ha]
        subst e1
        exact pur_mx3 (mxm := false) hop hx hy hz ht (by simpa [evP] using hv)
      · cases hk
    · simp only [c_cpy] at hk
      split at hk
      · split at hk
        · split at hk
          · split at hk
            · simp [Option.bind_eq_some_iff] at hk
            · cases hk
          · cases hk
        · cases hk
      · cases hk
    · simp [Option.bind_eq_some_iff] at hk
    · simp [Option.bind_eq_some_iff] at hk
    · simp [Option.bind_eq_some_iff] at hk
    · cases hk
  | alloc e => simp [compK] at hk
  | box e x => simp [compK, Option.bind_eq_some_iff] at hk
  | buildSlice ty n parts =>
    simp only [compK, c_bsl] at hk
    split at hk
    · simp only [bind, Option.bind_eq_some_iff] at hk
      obtain ⟨z, hz, s, hs, ps, hps, hk⟩ := hk
      split at hk <;> cases hk
    · cases hk
  | load ty x => simp [compK, Option.bind_eq_some_iff] at hk
  | store ty x y => simp [compK, Option.bind_eq_some_iff] at hk
  | makeSlice ty x y =>
    simp only [compK, c_mk] at hk
    split at hk
    · simp only [bind, Option.bind_eq_some_iff] at hk
      obtain ⟨s, hs, hk⟩ := hk
      split at hk
      · cases hk
      · simp [Option.bind_eq_some_iff] at hk
    · cases hk
  | makeMap t r =>
    simp only [compK, c_mkm] at hk
    split at hk <;> simp at hk
  | lookup t x k ok =>
    simp only [compK, c_mlk] at hk
    split at hk
    · split at hk
      · simp [Option.bind_eq_some_iff] at hk
      · cases hk
    · cases hk
  | mapUpdate t x k v =>
    simp only [compK, c_mup] at hk
    split at hk
    · split at hk
      · simp [Option.bind_eq_some_iff] at hk
      · cases hk
    · cases hk
  | _ => simp [compK] at hk

end
end Go.Vm

/- All operations that touch no memory, in one word. -/
import Derived.Test.YtddnpchfjdgigaaDoorVmH
import Derived.Test.YtddnpchfjdgigaaDoorVmFS
import Derived.Laws.StructEq
namespace Go.Vm
open Go.RowKit

section
variable {P : Program} {a : Act} {o : Oper} {rl : Rl} {m : M} {t : Tr} {v : AVal}

theorem pur_mki {x : Operand} {y : AOpd} {ty : TypeId} {d : TypeDesc} (ho : o.op = .makeInterface ty x) (hu : P.underlying ty = some d) (hn : ∀ ms, d ≠ .interface ms) (hc : copd x = some y) (ht : TRk rl m t a (opdT y)) (hv : AVal.ifc ty (opd t y) = v) : Pur P a o rl m v := by
  subst hv
  refine ⟨.iface ty (a.eval x), fun w => ?_, .ifc _ _ _ (copd_sound hc ht)⟩
  simp only [execOp, ho, Instr.makeInterface, Sem.run_bind, run_und hu, Result.andThen_ok]
  cases d <;> first | rfl | exact absurd rfl (hn _)

theorem cagg_int {ty : TypeId} (h : isIntT P ty = true) : cagg P ty = some false ∧ ∃ k, P.underlying ty = some (.int k) := by
  unfold isIntT at h
  split at h
  · rename_i k hk; exact ⟨by simp [cagg, hk], k, hk⟩
  · cases h

theorem part_int {ty : TypeId} (h : isIntT P ty = true) {cs : List AVal} {cs' : Array Value} (hl : cs.length = cs'.size) (hcs : ∀ i v, cs[i]? = some v → VR rl m v (cs'.getD i undef)) {off : Nat} {k : IntKind} {n : Int} (hg : lget cs off = some (.i k n)) (w : World) :
    (part ty cs' off).run P w = .ok (.int k n) w := by
  rw [lget_eq] at hg
  have hi : off < cs'.size := by rw [← hl]; exact (List.getElem?_eq_some_iff.1 hg).1
  have hv := (hcs _ _ hg).inv_i
  have : cs'[off]? = some (.int k n) := by
    rw [← hv]; simp [Array.getD_eq_getD_getElem?, hi]
  simp [part, cagg_sound (cagg_int h).1, this]

theorem eqFields_sound (d : Nat) {xs ys : List AVal} {xs' ys' : Array Value} (lx : xs.length = xs'.size) (hx : ∀ i v, xs[i]? = some v → VR rl m v (xs'.getD i undef)) (ly : ys.length = ys'.size) (hy : ∀ i v, ys[i]? = some v → VR rl m v (ys'.getD i undef)) (w : World) :
    ∀ (fs : List Field) (r : Bool), (fs.all fun f => f.name != "_" && isIntT P f.type) = true → seqA (fs.map (·.offset)) xs ys = some r → (Op.eqFields (d + 1) xs' ys' fs).run P w = .ok r w
  | [], r, _, h => by cases h; rfl
  | f :: fs, r, hall, h => by
    simp only [List.all_cons, Bool.and_eq_true, bne_iff_ne] at hall
    obtain ⟨⟨h1, h2⟩, h3⟩ := hall
    simp only [List.map_cons, seqA] at h
    split at h
    · rename_i k a ha
      split at h
      · rename_i k' b hb
        cases hk : kEq k k' <;> rw [hk] at h
        · cases h
        have hkk := (kEq_iff k k').1 hk
        subst hkk
        simp only [cond_true] at h
        obtain ⟨k0, hu⟩ := (cagg_int h2).2
        simp only [Op.eqFields, if_pos h1, Sem.run_bind, part_int h2 lx hx ha, part_int h2 ly hy hb, Result.andThen_ok, run_equalIn_int w d f.type k k0 a b hu]
        rw [eqI_eq] at h
        cases hab : (a == b) <;> rw [hab] at h
        · cases h; simp
        · simp only [cond_true] at h
          simpa using eqFields_sound d lx hx ly hy w fs r (by simpa using h3) h
      · cases h
    · cases h

theorem pur_seq {x y : Operand} {x' y' : AOpd} {ty ty' : TypeId} {ng : Bool} {fs : Array Field} (ho : o.op = .binOp (if ng then .neq else .eql) ty x y ty') (hu : P.underlying ty = some (.struct fs)) (h1 : P.stoodInHeld ty = false) (h2 : P.eqGuardType P.depth ty = false)
    (h3 : (fs.toList.all fun f => f.name != "_" && isIntT P f.type) = true) (hx : copd x = some x') (hy : copd y = some y')
    (ht : TRk rl m t a (opdT x' ++ opdT y')) (hv : ev_seq t ng (fs.toList.map (·.offset)) x' y' = some v) : Pur P a o rl m v := by
  have rx := copd_sound hx (rl := rl) (m := m) (t := t) (a := a) (ht.mem fun n hn => by simp [hn])
  have ry := copd_sound hy (rl := rl) (m := m) (t := t) (a := a) (ht.mem fun n hn => by simp [hn])
  unfold ev_seq at hv
  split at hv
  · rename_i xs e1
    split at hv
    · rename_i ys e2
      split at hv
      · rename_i r hr
        cases hv
        rw [e1] at rx; rw [e2] at ry
        obtain ⟨xs', ex, lx, qx⟩ := rx.inv_agg
        obtain ⟨ys', ey, ly, qy⟩ := ry.inv_agg
        have hf : P.fieldsOf ty = fs := by simp [Program.fieldsOf, hu]
        have heq : ∀ w, (Op.equal ty (.agg xs') (.agg ys')).run P w = .ok r w := fun w => by
          show (Op.equalIn (9999 + 1) ty (.agg xs') (.agg ys')).run P w = _
          rw [run_equalIn_struct w 9999 ty xs' ys' (by rw [hf]; exact hu) h1, hf]
          exact eqFields_sound 9998 lx qx ly qy w _ r h3 hr
        refine ⟨.bool (if ng then !r else r), fun w => ?_, .b _⟩
        cases ng <;> simp [execOp, ho, ex, ey, eqGuard, binOp, heq, h2]
      · cases hv
    · cases hv
  · cases hv

theorem follow_sound : ∀ (ps : List FieldStep) (t : TypeId) (l : List (Nat × Nat × Bool)) (xt : TypeId) (v r : AVal) (v' : Value), c_path P ps t = some (l, xt) → followA l v = some r → VR rl m v v' →
    ∃ r', VR rl m r r' ∧ ∀ w, (follow ps t (.val v')).run P w = .ok (xt, .val r') w
  | [], t, l, xt, v, r, v', hp, hf, hv => by
    cases hp; cases hf
    exact ⟨v', hv, fun w => rfl⟩
  | s :: ps, t, l, xt, v, r, v', hp, hf, hv => by
    unfold c_path at hp
    split at hp
    · cases hp
    rename_i hd
    split at hp
    · rename_i fs hu
      split at hp
      · rename_i f hfi
        split at hp
        · rename_i ag hag
          split at hp
          · rename_i n hn
            split at hp
            · rename_i l' t' hrest
              cases hp
              unfold followA at hf
              split at hf
              · rename_i cs
                split at hf
                · rename_i u hpa
                  obtain ⟨cs', rfl, hl, hcs⟩ := hv.inv_agg
                  obtain ⟨u', hpr, hur⟩ := partA_sound hag hn hl hcs hpa
                  obtain ⟨r', hr', hrun⟩ := follow_sound ps _ _ _ _ _ _ hrest hf hur
                  refine ⟨r', hr', fun w => ?_⟩
                  simp [follow, run_und hu, hfi, hd, hpr, hrun]
                · cases hf
              · cases hf
            · cases hp
          · cases hp
        · cases hp
      · cases hp
    · cases hp

theorem mrow_mem {ty f : Nat} {p : List (Nat × Nat × Bool)} : ∀ {tab : List MRow}, mrow tab ty = some (f, p) → (ty, f, p) ∈ tab
  | [], h => by cases h
  | (t, g, q) :: l, h => by
    unfold mrow at h
    cases hb : Nat.beq t ty <;> rw [hb] at h
    · exact List.mem_cons_of_mem _ (mrow_mem h)
    · cases h
      have := Nat.eq_of_beq_eq_true hb
      subst this
      exact List.mem_cons_self

theorem c_row_sound {name : String} {ty f : Nat} {p : List (Nat × Nat × Bool)} (h : (ty, f, p) ∈ c_rows P name) {v r : AVal} {v' : Value} (hf : followA p v = some r) (hv : VR rl m v v') :
    ∃ r', VR rl m r r' ∧ ∀ (d : Nat) w, (method (d + 1) ty v' name).run P w = .ok (f, r') w := by
  unfold c_rows at h
  rw [List.mem_filterMap] at h
  obtain ⟨t, -, h⟩ := h
  unfold c_row at h
  split at h
  · rename_i i hi
    split at h
    · rename_i mr hmr
      split at h
      · rename_i f' hfn
        split at h
        · rename_i p' xt hp
          split at h
          · cases h
          · rename_i dsc hnp hu
            cases h
            obtain ⟨r', hr', hrun⟩ := follow_sound _ _ _ _ _ _ _ hp hf hv
            refine ⟨r', hr', fun d w => ?_⟩
            have hrec : ∀ nm, (receiverAt xt (.val r') false nm).run P w = .ok r' w := by
              intro nm
              simp only [receiverAt, Sem.run_bind, run_und hu, Result.andThen_ok]
              cases dsc <;> first | rfl | exact absurd rfl (hnp _)
            simp [method, typeInfo, hi, hmr, hrun, hfn, hrec]
          · cases h
        · cases h
      · cases h
    · cases h
  · cases h

theorem mget_sound {name : String} {v r : AVal} {v' : Value} {f : Nat} (hv : VR rl m v v') (h : mget (c_rows P name) v = some (f, r)) :
    ∃ ty u r', v' = .iface ty u ∧ (∀ (d : Nat) w, (method (d + 1) ty u name).run P w = .ok (f, r') w) ∧ VR rl m r r' := by
  unfold mget at h
  split at h
  · rename_i ty u
    split at h
    · rename_i g p hm
      split at h
      · rename_i r0 hf
        cases h
        obtain ⟨u', rfl, hu⟩ := hv.inv_ifc
        obtain ⟨r', hr', h2⟩ := c_row_sound (mrow_mem hm) hf hu
        exact ⟨ty, u', r', rfl, h2, hr'⟩
      · cases h
    · cases h
  · cases h


theorem followBlind_sound : ∀ (ps : List FieldStep) (t : TypeId) (l : List (Nat × Nat × Bool)) (xt : TypeId) (v r : AVal) (v' : Value), c_path P ps t = some (l, xt) → followA l v = some r → VR rl m v v' →
    ∃ r', ∀ w, (followBlind ps t (some v')).run P w = .ok (.ok (xt, some r')) w
  | [], t, l, xt, v, r, v', hp, hf, hv => by
    cases hp; cases hf
    exact ⟨v', fun w => rfl⟩
  | s :: ps, t, l, xt, v, r, v', hp, hf, hv => by
    unfold c_path at hp
    split at hp
    · cases hp
    rename_i hd
    split at hp
    · rename_i fs hu
      split at hp
      · rename_i f hfi
        split at hp
        · rename_i ag hag
          split at hp
          · rename_i n hn
            split at hp
            · rename_i l' t' hrest
              cases hp
              unfold followA at hf
              split at hf
              · rename_i cs
                split at hf
                · rename_i u hpa
                  obtain ⟨cs', rfl, hl, hcs⟩ := hv.inv_agg
                  obtain ⟨u', hpr, hur⟩ := partA_sound hag hn hl hcs hpa
                  obtain ⟨r', hrun⟩ := followBlind_sound ps _ _ _ _ _ _ hrest hf hur
                  refine ⟨r', fun w => ?_⟩
                  simp [followBlind, run_und hu, hfi, hd, hpr, hrun]
                · cases hf
              · cases hf
            · cases hp
          · cases hp
        · cases hp
      · cases hp
    · cases hp

theorem nilAhead_sound {name : String} {ty f : Nat} {p : List (Nat × Nat × Bool)} (h : (ty, f, p) ∈ c_rows P name) {v r : AVal} {v' : Value} (hf : followA p v = some r) (hv : VR rl m v v') (d : Nat) (w : World) :
    (nilAhead (d + 1) ty v' name).run P w = .ok (some false) w := by
  unfold c_rows at h
  rw [List.mem_filterMap] at h
  obtain ⟨t, -, h⟩ := h
  unfold c_row at h
  split at h
  · rename_i i hi
    split at h
    · rename_i mr hmr
      split at h
      · rename_i f' hfn
        split at h
        · rename_i p' xt hp
          split at h
          · cases h
          · rename_i dsc hnp hu
            cases h
            obtain ⟨r', hrun⟩ := followBlind_sound _ _ _ _ _ _ _ hp hf hv
            simp only [nilAhead, typeInfo, Sem.run_bind, run_program, Result.andThen_ok, hi, hmr, Sem.run_pure, hrun, hfn, run_und hu]
            cases dsc <;> first | rfl | exact absurd rfl (hnp _)
          · cases h
        · cases h
      · cases h
    · cases h
  · cases h

theorem mtabF_mem {tab : List MRow} {s : String} : ∀ {tabs : List (String × List MRow)}, mtabF tabs s = some tab → (s, tab) ∈ tabs
  | [], h => by cases h
  | (n, t) :: l, h => by
    unfold mtabF at h
    split at h
    · rename_i e
      cases h
      have := eq_of_beq e
      subst this
      exact List.mem_cons_self
    · exact List.mem_cons_of_mem _ (mtabF_mem h)

theorem c_meths_mem {tab : List MRow} {s : String} (h : (s, tab) ∈ c_meths P) : tab = c_rows P s := by
  unfold c_meths at h
  obtain ⟨h, -⟩ := List.mem_filter.1 h
  obtain ⟨n, -, e⟩ := List.mem_map.1 h
  cases e; rfl

theorem pur_nilm {x : Operand} {y : AOpd} (ho : o.op = .nilCheck x) (hc : copd x = some y) (ht : TRk rl m t a (opdT y)) (hv : ev_nilm t (c_meths P) y = some v) : Pur P a o rl m v := by
  unfold ev_nilm at hv
  split at hv
  · rename_i name u e
    split at hv
    · rename_i tab htab
      split at hv
      · rename_i g hg
        cases hv
        have rx := copd_sound hc ht
        rw [e] at rx
        obtain ⟨u', e', hu⟩ := rx.inv_bm
        have := c_meths_mem (mtabF_mem htab)
        subst this
        unfold mget at hg
        split at hg
        · rename_i ty uu
          split at hg
          · rename_i f p hm
            split at hg
            · rename_i r hf
              obtain ⟨w', rfl, hw⟩ := hu.inv_ifc
              refine ⟨a.eval x, fun w => ?_, by rw [e']; exact .bm _ _ _ (.ifc _ _ _ hw)⟩
              obtain ⟨d, hd⟩ : ∃ d, P.types.size + Made.depth = d + 1 := ⟨P.types.size + (Made.depth - 1), by unfold Made.depth; omega⟩
              have hn := nilAhead_sound (mrow_mem hm) hf hw d w
              simp [execOp, ho, e', hd, hn]
            · cases hg
          · cases hg
        · cases hg
      · cases hv
    · cases hv
  · exact pur_nilck ho hc ht hv

theorem pur_mkbm {x : Operand} {y : AOpd} {name : String} {fs cs : Array Operand} (ho : o.op = .makeFunc (.method name) fs cs) (hf : fs.toList = [x]) (hcs : cs.toList = []) (hc : copd x = some y) (ht : TRk rl m t a (opdT y)) (hv : AVal.bm name (opd t y) = v) : Pur P a o rl m v := by
  subst hv
  have e1 : fs = #[x] := by rw [← Array.toArray_toList (xs := fs), hf]
  have e2 : cs = #[] := by rw [← Array.toArray_toList (xs := cs), hcs]
  subst e1; subst e2
  exact ⟨.func (.method name) #[a.eval x] #[], fun w => by simp [execOp, ho, Instr.makeFunc], .bm _ _ _ (copd_sound hc ht)⟩

theorem pur_mx3 {x y z : Operand} {x' y' z' : AOpd} {mxm : Bool} {ts : Array TypeId} (ho : o.op = .call { callee := .builtin (if mxm then .max else .min), args := #[x, y, z], argTypes := ts }) (hx : copd x = some x') (hy : copd y = some y') (hz : copd z = some z')
    (ht : TRk rl m t a (opdT x' ++ opdT y' ++ opdT z')) (hv : ev_mx3 t mxm x' y' z' = some v) : Pur P a o rl m v := by
  have rx := copd_sound hx (rl := rl) (m := m) (t := t) (a := a) (ht.mem fun n hn => by simp [hn])
  have ry := copd_sound hy (rl := rl) (m := m) (t := t) (a := a) (ht.mem fun n hn => by simp [hn])
  have rz := copd_sound hz (rl := rl) (m := m) (t := t) (a := a) (ht.mem fun n hn => by simp [hn])
  unfold ev_mx3 at hv
  split at hv
  · rename_i k p k' q k'' r e1 e2 e3
    rw [e1] at rx; rw [e2] at ry; rw [e3] at rz
    cases hk : (kEq k k' && kEq k k'') <;> rw [hk] at hv
    · cases hv
    simp only [Bool.and_eq_true] at hk
    obtain ⟨h1, h2⟩ := hk
    have h1 := (kEq_iff _ _).1 h1
    have h2 := (kEq_iff _ _).1 h2
    subst h1; subst h2
    cases hv
    rw [mkI_eq]
    refine ⟨_, fun w => ?_, .i _ _⟩
    cases mxm <;> simp [execOp, ho, resolve, invoke, builtin, rx.inv_i, ry.inv_i, rz.inv_i, Builtin.max_, Builtin.max2, Builtin.min_, Builtin.min2, mxI]
  · cases hv

theorem pure_sound {k : PK} (hk : compK P o.op = some (.pure k)) (ht : TRk rl m t a k.looks) (hv : evP t k = some v) : Pur P a o rl m v := by
  generalize hop : o.op = op at hk
  cases op with
  | move x =>
    simp only [compK, Option.map_eq_some_iff, Kind.pure.injEq] at hk
    obtain ⟨y, hy, rfl⟩ := hk
    exact pur_mv (.inl hop) hy ht (by simpa [evP] using hv)
  | assign x =>
    simp only [compK, Option.map_eq_some_iff, Kind.pure.injEq] at hk
    obtain ⟨y, hy, rfl⟩ := hk
    exact pur_mv (.inr hop) hy ht (by simpa [evP] using hv)
  | pick c x y =>
    simp only [compK, bind, Option.bind_eq_some_iff, Option.some.injEq, Kind.pure.injEq] at hk
    obtain ⟨c', hc, x', hx, y', hy, rfl⟩ := hk
    exact pur_pick hop hc hx hy ht (by simpa [evP] using hv)
  | build ty parts =>
    simp only [compK, c_build, bind, Option.bind_eq_some_iff] at hk
    obtain ⟨z, hz, hk⟩ := hk
    split at hk
    · rename_i fs hu
      simp only [Option.bind_eq_some_iff] at hk
      obtain ⟨ps, hps, hk⟩ := hk
      split at hk
      · rename_i hall
        simp only [Option.some.injEq, Kind.pure.injEq] at hk
        subst hk
        rw [Array.all_eq_true_iff_forall_mem] at hall
        refine pur_build hop hz hu (.inl ⟨fs, rfl, fun f hf => hall f (by simpa using hf), ?_⟩) hps ht (by simpa [evP] using hv)
        intro i p hp
        simp only [Option.bind_eq_some_iff, Option.some.injEq] at hp
        obtain ⟨f, hf, s, hs, rfl⟩ := hp
        rw [List.getElem?_map]
        have : fs.toList[i]? = some f := by simpa using hf
        simp [this, csize_cells hs]
      · cases hk
    · rename_i n e hu
      simp only [Option.bind_eq_some_iff, Option.some.injEq, Kind.pure.injEq] at hk
      obtain ⟨s, hs, ps, hps, rfl⟩ := hk
      exact pur_build hop hz hu (.inr ⟨n, e, s, rfl, hs, fun i p hp => by simpa using hp.symm⟩) hps ht (by simpa [evP] using hv)
    · cases hk
  | nilCheck x =>
    simp only [compK, c_nilck] at hk
    split at hk
    · simp only [bind, Option.bind_eq_some_iff, Option.some.injEq, Kind.pure.injEq] at hk
      obtain ⟨y, hy, rfl⟩ := hk
      exact pur_nilck hop hy ht (by simpa [evP] using hv)
    · simp only [bind, Option.bind_eq_some_iff, Option.some.injEq, Kind.pure.injEq] at hk
      obtain ⟨y, hy, rfl⟩ := hk
      exact pur_nilm hop hy ht (by simpa [evP] using hv)
  | binOp op ty x y ty' =>
    simp only [compK, c_bin] at hk
    have eqs : ∀ ng, op = (if ng then .neq else .eql) → c_eqs P ty ng x y = some (.pure k) → Pur P a o rl m v := by
      intro ng hop' hk
      rw [hop'] at hop
      simp only [c_eqs] at hk
      split at hk
      · rename_i hu
        simp only [bind, Option.bind_eq_some_iff, Option.some.injEq, Kind.pure.injEq] at hk
        obtain ⟨x', hx, y', hy, rfl⟩ := hk
        exact pur_beq (ng := ng) hop hu hx hy ht (by simpa [evP] using hv)
      · rename_i e hu
        split at hk
        · rename_i hn
          simp only [bind, Option.bind_eq_some_iff, Option.some.injEq, Kind.pure.injEq] at hk
          obtain ⟨x', hx, rfl⟩ := hk
          have hy : y = .const (.slice none 0 0) := by
            unfold isNilSl at hn
            split at hn
            · rfl
            · cases hn
          subst hy
          exact pur_nilcmp (ng := ng) hop hu hx ht (by simpa [evP] using hv)
        · cases hk
      · rename_i fs hu
        split at hk
        · cases hk
        · rename_i hc
          simp only [bind, Option.bind_eq_some_iff, Option.some.injEq, Kind.pure.injEq] at hk
          obtain ⟨x', hx, y', hy, rfl⟩ := hk
          simp only [Bool.or_eq_true, Bool.not_eq_true', not_or, Bool.not_eq_true, Bool.not_eq_false] at hc
          exact pur_seq (ng := ng) hop hu hc.1.1 hc.1.2 hc.2 hx hy ht (by simpa [evP] using hv)
      · cases hk
    split at hk
    · rename_i ik hu
      simp only [bind, Option.bind_eq_some_iff, Option.some.injEq, Kind.pure.injEq] at hk
      obtain ⟨x', hx, y', hy, rfl⟩ := hk
      exact pur_bin hop hx hy ht (by simpa [evP] using hv)
    · rename_i hu
      simp only [bind, Option.bind_eq_some_iff, Option.some.injEq, Kind.pure.injEq] at hk
      obtain ⟨x', hx, y', hy, rfl⟩ := hk
      exact pur_sbin hop hx hy ht (by simpa [evP] using hv)
    · split at hk
      · exact eqs false rfl hk
      · exact eqs true rfl hk
      · cases hk
  | unOp uo ty x =>
    simp only [compK, c_un] at hk
    split at hk
    · simp only [bind, Option.bind_eq_some_iff, Option.some.injEq, Kind.pure.injEq] at hk
      obtain ⟨y, hy, rfl⟩ := hk
      exact pur_not hop hy ht (by simpa [evP] using hv)
    · simp only [bind, Option.bind_eq_some_iff, Option.some.injEq, Kind.pure.injEq] at hk
      obtain ⟨y, hy, rfl⟩ := hk
      exact pur_neg hop hy ht (by simpa [evP] using hv)
    · cases hk
  | convert src dst x =>
    simp only [compK, c_conv] at hk
    split at hk
    · rename_i k0 hs
      split at hk
      · rename_i k1 hd
        simp only [bind, Option.bind_eq_some_iff, Option.some.injEq, Kind.pure.injEq] at hk
        obtain ⟨y, hy, rfl⟩ := hk
        exact pur_conv hop hs hd hy ht (by simpa [evP] using hv)
      · rename_i hd
        simp only [bind, Option.bind_eq_some_iff, Option.some.injEq, Kind.pure.injEq] at hk
        obtain ⟨y, hy, rfl⟩ := hk
        exact pur_chr hop hs hd hy ht (by simpa [evP] using hv)
      · cases hk
    · rename_i hs
      split at hk
      · rename_i hd
        simp only [bind, Option.bind_eq_some_iff, Option.some.injEq, Kind.pure.injEq] at hk
        obtain ⟨y, hy, rfl⟩ := hk
        exact pur_mvS hop hs hd hy ht hv
      · cases hk
    · split at hk
      · split at hk
        · simp [Option.bind_eq_some_iff] at hk
        · cases hk
      · cases hk
    · cases hk
  | fieldAddr ty x fi =>
    simp only [compK, c_faddr] at hk
    split at hk
    · rename_i fs hu
      simp only [bind, Option.bind_eq_some_iff] at hk
      obtain ⟨fd, hfd, s, hs, hk⟩ := hk
      split at hk
      · cases hk
      · rename_i hs0
        simp only [Option.bind_eq_some_iff, Option.some.injEq, Kind.pure.injEq] at hk
        obtain ⟨y, hy, rfl⟩ := hk
        exact pur_faddr hop hu hfd hs hs0 hy ht (by simpa [evP] using hv)
    · cases hk
  | field ty x fi =>
    simp only [compK, c_field] at hk
    split at hk
    · rename_i fs hu
      simp only [bind, Option.bind_eq_some_iff, Option.some.injEq, Kind.pure.injEq] at hk
      obtain ⟨fd, hfd, ag, hag, s, hs, y, hy, rfl⟩ := hk
      exact pur_field hop hu hfd hag hs hy ht (by simpa [evP] using hv)
    · cases hk
  | indexAddr ty x ix =>
    simp only [compK, c_ixa] at hk
    split at hk
    · rename_i n e hu
      simp only [bind, Option.bind_eq_some_iff, Option.some.injEq, Kind.pure.injEq] at hk
      obtain ⟨s, hs, x', hx, y', hy, rfl⟩ := hk
      exact pur_ixA hop hu hs hx hy ht (by simpa [evP] using hv)
    · rename_i e hu
      simp only [bind, Option.bind_eq_some_iff, Option.some.injEq, Kind.pure.injEq] at hk
      obtain ⟨s, hs, x', hx, y', hy, rfl⟩ := hk
      exact pur_ixS hop hu hs hx hy ht (by simpa [evP] using hv)
    · cases hk
  | index ty x ix =>
    simp only [compK, c_ixv] at hk
    split at hk
    · rename_i n e hu
      simp only [bind, Option.bind_eq_some_iff, Option.some.injEq, Kind.pure.injEq] at hk
      obtain ⟨ag, hag, s, hs, x', hx, y', hy, rfl⟩ := hk
      exact pur_ixV hop hu hag hs hx hy ht (by simpa [evP] using hv)
    · rename_i hu
      simp only [bind, Option.bind_eq_some_iff, Option.some.injEq, Kind.pure.injEq] at hk
      obtain ⟨x', hx, y', hy, rfl⟩ := hk
      exact pur_ixStr hop hu hx hy ht (by simpa [evP] using hv)
    · cases hk
  | makeFunc fn fs cs =>
    simp only [compK, c_fn] at hk
    split at hk
    · simp only [bind, Option.bind_eq_some_iff, Option.some.injEq, Kind.pure.injEq] at hk
      obtain ⟨x', hx, y', hy, rfl⟩ := hk
      exact pur_mkfn hop hx hy ht (by simpa [evP] using hv)
    · split at hk
      · rename_i hfs
        split at hk
        · rename_i hcs
          simp only [bind, Option.bind_eq_some_iff, Option.some.injEq, Kind.pure.injEq] at hk
          obtain ⟨y, hy, rfl⟩ := hk
          exact pur_mkbm hop hfs hcs hy ht (by simpa [evP] using hv)
        · cases hk
      · cases hk
    · cases hk
  | slice ty x lo hi mx =>
    simp only [compK, c_slice, bind, Option.bind_eq_some_iff] at hk
    obtain ⟨lo', hlo, hi', hhi, mx', hmx, hk⟩ := hk
    split at hk
    · rename_i n e hu
      simp only [Option.bind_eq_some_iff] at hk
      obtain ⟨s, hs, hk⟩ := hk
      split at hk
      · cases hk
      · rename_i hmn
        simp only [Option.bind_eq_some_iff, Option.some.injEq, Kind.pure.injEq] at hk
        obtain ⟨x', hx, rfl⟩ := hk
        have : mx = none := by simpa using hmn
        subst this
        exact pur_slA hop hu hs hx hlo hhi ht (by simpa [evP] using hv)
    · rename_i e hu
      simp only [Option.bind_eq_some_iff, Option.some.injEq, Kind.pure.injEq] at hk
      obtain ⟨s, hs, x', hx, rfl⟩ := hk
      exact pur_slS hop hu hs hx hlo hhi hmx ht (by simpa [evP] using hv)
    · rename_i hu
      split at hk
      · cases hk
      · rename_i hmn
        simp only [Option.bind_eq_some_iff, Option.some.injEq, Kind.pure.injEq] at hk
        obtain ⟨x', hx, rfl⟩ := hk
        have : mx = none := by simpa using hmn
        subst this
        exact pur_slStr hop hu hx hlo hhi ht (by simpa [evP] using hv)
    · cases hk
  | makeInterface ty x =>
    simp only [compK, c_mki] at hk
    split at hk
    · cases hk
    · rename_i d hn hu
      simp only [bind, Option.bind_eq_some_iff, Option.some.injEq, Kind.pure.injEq] at hk
      obtain ⟨y, hy, rfl⟩ := hk
      exact pur_mki hop hu hn hy ht (by simpa [evP] using hv)
    · cases hk
  | extract x ix =>
    simp only [compK, bind, Option.bind_eq_some_iff, Option.some.injEq, Kind.pure.injEq] at hk
    obtain ⟨y, hy, rfl⟩ := hk
    exact pur_ext hop hy ht (by simpa [evP] using hv)
  | call c =>
    obtain ⟨cal, args, ats⟩ := c
    simp only [compK, c_call] at hk
    split at hk
    · simp only [c_len] at hk
      split at hk
      · rename_i x ha
        split at hk
        · rename_i ty hat
          have e1 : args = #[x] := by rw [← Array.toArray_toList (xs := args), ha]
          have e2 : ats = #[ty] := by rw [← Array.toArray_toList (xs := ats), hat]
          subst e1; subst e2
          split at hk
          · rename_i e hu
            simp only [bind, Option.bind_eq_some_iff, Option.some.injEq, Kind.pure.injEq] at hk
            obtain ⟨y, hy, rfl⟩ := hk
            exact pur_len (str := false) hop hu ⟨e, rfl⟩ hy ht (by simpa [evP] using hv)
          · rename_i hu
            simp only [bind, Option.bind_eq_some_iff, Option.some.injEq, Kind.pure.injEq] at hk
            obtain ⟨y, hy, rfl⟩ := hk
            exact pur_len (str := true) hop hu rfl hy ht (by simpa [evP] using hv)
          · cases hk
        · cases hk
      · cases hk
    · simp only [c_app] at hk
      split at hk
      · split at hk
        · split at hk
          · split at hk
            · simp only [bind, Option.bind_eq_some_iff] at hk
              obtain ⟨s, hs, hk⟩ := hk
              split at hk
              · cases hk
              · simp [Option.bind_eq_some_iff] at hk
            · cases hk
          · cases hk
        · cases hk
      · cases hk
    · simp only [c_mx] at hk
      split at hk
      · rename_i x y ha
        simp only [bind, Option.bind_eq_some_iff, Option.some.injEq, Kind.pure.injEq] at hk
        obtain ⟨x', hx, y', hy, rfl⟩ := hk
        have e1 : args = #[x, y] := by rw [← Array.toArray_toList (xs := args), ha]
        subst e1
        exact pur_mx (mxm := true) hop hx hy ht (by simpa [evP] using hv)
      · rename_i x y z ha
        simp only [bind, Option.bind_eq_some_iff, Option.some.injEq, Kind.pure.injEq] at hk
        obtain ⟨x', hx, y', hy, z', hz, rfl⟩ := hk
        have e1 : args = #[x, y, z] := by rw [← Array.toArray_toList (xs := args), ha]
        subst e1
        exact pur_mx3 (mxm := true) hop hx hy hz ht (by simpa [evP] using hv)
      · cases hk
    · simp only [c_mx] at hk
      split at hk
      · rename_i x y ha
        simp only [bind, Option.bind_eq_some_iff, Option.some.injEq, Kind.pure.injEq] at hk
        obtain ⟨x', hx, y', hy, rfl⟩ := hk
        have e1 : args = #[x, y] := by rw [← Array.toArray_toList (xs := args), ha]
        subst e1
        exact pur_mx (mxm := false) hop hx hy ht (by simpa [evP] using hv)
      · rename_i x y z ha
        simp only [bind, Option.bind_eq_some_iff, Option.some.injEq, Kind.pure.injEq] at hk
        obtain ⟨x', hx, y', hy, z', hz, rfl⟩ := hk
        have e1 : args = #[x, y, z] := by rw [← Array.toArray_toList (xs := args), ha]
        subst e1
        exact pur_mx3 (mxm := false) hop hx hy hz ht (by simpa [evP] using hv)
      · cases hk
    · simp only [c_cpy] at hk
      split at hk
      · split at hk
        · split at hk
          · split at hk
            · simp [Option.bind_eq_some_iff] at hk
            · cases hk
          · cases hk
        · cases hk
      · cases hk
    · simp [Option.bind_eq_some_iff] at hk
    · simp [Option.bind_eq_some_iff] at hk
    · simp [Option.bind_eq_some_iff] at hk
    · cases hk
  | alloc e => simp [compK] at hk
  | box e x => simp [compK, Option.bind_eq_some_iff] at hk
  | buildSlice ty n parts =>
    simp only [compK, c_bsl] at hk
    split at hk
    · simp only [bind, Option.bind_eq_some_iff] at hk
      obtain ⟨z, hz, s, hs, ps, hps, hk⟩ := hk
      split at hk <;> cases hk
    · cases hk
  | load ty x => simp [compK, Option.bind_eq_some_iff] at hk
  | store ty x y => simp [compK, Option.bind_eq_some_iff] at hk
  | makeSlice ty x y =>
    simp only [compK, c_mk] at hk
    split at hk
    · simp only [bind, Option.bind_eq_some_iff] at hk
      obtain ⟨s, hs, hk⟩ := hk
      split at hk
      · cases hk
      · simp [Option.bind_eq_some_iff] at hk
    · cases hk
  | makeMap t r =>
    simp only [compK, c_mkm] at hk
    split at hk <;> simp at hk
  | lookup t x k ok =>
    simp only [compK, c_mlk] at hk
    split at hk
    · split at hk
      · simp [Option.bind_eq_some_iff] at hk
      · cases hk
    · cases hk
  | mapUpdate t x k v =>
    simp only [compK, c_mup] at hk
    split at hk
    · split at hk
      · simp [Option.bind_eq_some_iff] at hk
      · cases hk
    · cases hk
  | _ => simp [compK] at hk

end
end Go.Vm

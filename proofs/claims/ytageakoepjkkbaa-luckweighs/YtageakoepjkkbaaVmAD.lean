/- The means by which a function of the small machine is read as a plain function: states, rules for each operation, for lists of operations, for code and loops. -/
import Derived.Test.YtageakoepjkkbaaVmAC
import Derived.Test.YtageakoepjkkbaaVmB
namespace Go.Vm

structure Mm where
  h : Heap
  lw : Nat
  lp : Nat

@[reducible] def Mm.st (m : Mm) (t : Tr) : St := ⟨t, m.h, m.lw, m.lp⟩
def St.mm (s : St) : Mm := ⟨s.h, s.lw, s.lp⟩

structure Means where
  call : Caller
  loop : {S R : Type} → (S → Option (S ⊕ R)) → S → Option R
  round : Rounds

def iter {S R : Type} (b : S → Option (S ⊕ R)) : Nat → S → Option R
  | 0, _ => none
  | n + 1, s => match b s with
    | some (.inl s') => iter b n s'
    | some (.inr r) => some r
    | none => none

structure Means.Ok (F : Tab) (ro : List ABlk) (M : Means) : Prop where
  call : CLe M.call (callX F ro)
  loop : ∀ {S R : Type} (b : S → Option (S ⊕ R)) (s : S) (r : R), M.loop b s = some r → ∃ n, iter b n s = some r
  round : RLe M.round (roundX F ro)

/- binds -/
def bindO {α β : Type} (x : Option α) (f : α → Option β) : Option β :=
  match x with
  | some a => f a
  | none => none
def bindP {β : Type} (x : Option (AVal × Mm)) (f : AVal → Mm → Option β) : Option β :=
  match x with
  | some (v, m) => f v m
  | none => none
def forceB {α : Type} (n : Bool) (f : Bool → α) : α :=
  match n with
  | true => f true
  | false => f false
def asI {β : Type} (k : IntKind) (v : AVal) (f : Int → Option β) : Option β :=
  match v with
  | .i k' x => cond (kEq k k') (f x) none
  | _ => none
def asB {β : Type} (v : AVal) (f : Bool → Option β) : Option β :=
  match v with
  | .b x => f x
  | _ => none
def asS {β : Type} (v : AVal) (f : List UInt8 → Option β) : Option β :=
  match v with
  | .s x => f x
  | _ => none
def asP {β : Type} (v : AVal) (f : Loc → Option β) : Option β :=
  match v with
  | .p (some q) => f q
  | _ => none
def chk {β : Type} (c : Bool) (f : Option β) : Option β := cond c f none

theorem bindO_inv {α β : Type} {x : Option α} {f : α → Option β} {r : β} (h : bindO x f = some r) : ∃ a, x = some a ∧ f a = some r := by
  cases x with
  | none => cases h
  | some a => exact ⟨a, rfl, h⟩
theorem bindP_inv {β : Type} {x : Option (AVal × Mm)} {f : AVal → Mm → Option β} {r : β} (h : bindP x f = some r) : ∃ v m, x = some (v, m) ∧ f v m = some r := by
  cases x with
  | none => cases h
  | some a => exact ⟨a.1, a.2, rfl, h⟩
theorem forceI_inv {β : Type} {n : Int} {f : Int → Option β} {r : β} (h : forceI n f = some r) : ∃ m, n = m ∧ f m = some r := ⟨n, rfl, by rwa [forceI_eq] at h⟩
theorem forceB_eq {α : Type} (n : Bool) (f : Bool → α) : forceB n f = f n := by cases n <;> rfl
theorem forceB_inv {β : Type} {n : Bool} {f : Bool → Option β} {r : β} (h : forceB n f = some r) : ∃ m, n = m ∧ f m = some r := ⟨n, rfl, by rwa [forceB_eq] at h⟩
theorem asI_inv {β : Type} {k : IntKind} {v : AVal} {f : Int → Option β} {r : β} (h : asI k v f = some r) : ∃ x, v = .i k x ∧ f x = some r := by
  unfold asI at h
  split at h
  · rename_i k' x
    cases e : kEq k k'
    · rw [e] at h; cases h
    · rw [e] at h; exact ⟨x, by rw [(kEq_iff k k').1 e], h⟩
  · cases h
theorem asB_inv {β : Type} {v : AVal} {f : Bool → Option β} {r : β} (h : asB v f = some r) : ∃ x, v = .b x ∧ f x = some r := by
  unfold asB at h
  split at h
  · exact ⟨_, rfl, h⟩
  · cases h
theorem asS_inv {β : Type} {v : AVal} {f : List UInt8 → Option β} {r : β} (h : asS v f = some r) : ∃ x, v = .s x ∧ f x = some r := by
  unfold asS at h
  split at h
  · exact ⟨_, rfl, h⟩
  · cases h
theorem asP_inv {β : Type} {v : AVal} {f : Loc → Option β} {r : β} (h : asP v f = some r) : ∃ x, v = .p (some x) ∧ f x = some r := by
  unfold asP at h
  split at h
  · exact ⟨_, rfl, h⟩
  · cases h
theorem chk_inv {β : Type} {c : Bool} {f : Option β} {r : β} (h : chk c f = some r) : c = true ∧ f = some r := by
  cases c
  · cases h
  · exact ⟨rfl, h⟩
theorem cond_inv {β : Type} {c : Bool} {a b : Option β} {r : β} (h : cond c a b = some r) : (c = true ∧ a = some r) ∨ (c = false ∧ b = some r) := by
  cases c
  · exact .inr ⟨rfl, h⟩
  · exact .inl ⟨rfl, h⟩

/- values of slots -/
abbrev Bs := List (Nat × AVal)
def sets : Bs → Tr → Tr
  | [], t => t
  | (i, v) :: l, t => (sets l t).set i v
def alook : Bs → Nat → AVal → AVal
  | [], _, d => d
  | (i, v) :: l, j, d => cond (Nat.beq i j) v (alook l j d)
theorem get_sets (b : Bs) (t : Tr) (j : Nat) : (sets b t).get j = alook b j (t.get j) := by
  induction b with
  | nil => rfl
  | cons p b ih =>
    obtain ⟨i, v⟩ := p
    simp only [sets, alook, get_set, ih]
    by_cases e : i = j
    · subst e; simp
    · have : Nat.beq i j = false := by
        cases h : Nat.beq i j
        · rfl
        · exact absurd (Nat.eq_of_beq_eq_true h) e
      simp [this, e]
def alk (t : Tr) (b : Bs) : AOpd → AVal
  | .t n => alook b n (t.get n)
  | .c v => v
theorem opd_sets (b : Bs) (t : Tr) (x : AOpd) : opd (sets b t) x = alk t b x := by
  cases x with
  | t n => exact get_sets b t n
  | c v => rfl
theorem opd_c (t : Tr) (v : AVal) : opd t (.c v) = v := rfl
theorem gl {t : Tr} {b : Bs} {j : Nat} {v : AVal} (h : alk t b (.t j) = v) : (sets b t).get j = v := (get_sets b t j).trans h

theorem mn {t : Tr} {b : Bs} : ([] : List AOpd).map (alk t b) = [] := rfl
theorem mc {t : Tr} {b : Bs} {x : AOpd} {l : List AOpd} {v : AVal} {vs : List AVal} (h : alk t b x = v) (hl : l.map (alk t b) = vs) : (x :: l).map (alk t b) = v :: vs := by simp [h, hl]
theorem map_opd (b : Bs) (t : Tr) (l : List AOpd) : l.map (opd (sets b t)) = l.map (alk t b) := by
  induction l with
  | nil => rfl
  | cons x l ih => simp [opd_sets, ih]
theorem opt_opd (b : Bs) (t : Tr) (l : Option AOpd) : l.map (opd (sets b t)) = l.map (alk t b) := by
  cases l with
  | none => rfl
  | some x => simp [opd_sets]
abbrev Pt := (Nat × Nat) × AOpd
def ptv (f : AOpd → AVal) (p : Pt) : (Nat × Nat) × AVal := (p.1, f p.2)
theorem qn {t : Tr} {b : Bs} : ([] : List Pt).map (ptv (alk t b)) = [] := rfl
theorem qc {t : Tr} {b : Bs} {p : Nat × Nat} {x : AOpd} {l : List Pt} {v : AVal} {vs : List ((Nat × Nat) × AVal)} (h : alk t b x = v) (hl : l.map (ptv (alk t b)) = vs) : ((p, x) :: l).map (ptv (alk t b)) = (p, v) :: vs := by simp [ptv, h, hl]
theorem map_pts (b : Bs) (t : Tr) (l : List Pt) : l.map (fun (x, o) => (x, opd (sets b t) o)) = l.map (ptv (alk t b)) := by
  induction l with
  | nil => rfl
  | cons x l ih => simp [opd_sets, ptv]

/- operations without memory -/
section
variable {t : Tr} {b : Bs} {x y z : AOpd} {v vx vy vz : AVal} {r : AVal}

theorem p_mv (hx : alk t b x = v) : evP (sets b t) (.mv x) = some v := by simp only [evP, opd_sets, hx]
theorem p_pick {c : Bool} (hx : alk t b x = .b c) (hy : alk t b y = vy) (hz : alk t b z = vz) (hv : cond c vy vz = v) : evP (sets b t) (.pick x y z) = some v := by
  simp only [evP, ev_pick, opd_sets, hx]
  cases c
  · simp only [hz]; exact congrArg some hv
  · simp only [hy]; exact congrArg some hv
theorem p_pickT (hx : alk t b x = .b true) (hy : alk t b y = v) : evP (sets b t) (.pick x y z) = some v := by
  simp only [evP, ev_pick, opd_sets, hx, hy]
theorem p_pickF (hx : alk t b x = .b false) (hz : alk t b z = v) : evP (sets b t) (.pick x y z) = some v := by
  simp only [evP, ev_pick, opd_sets, hx, hz]
theorem p_bin {op : BinOp} {k k' : IntKind} {a c : Int} (hx : alk t b x = .i k a) (hy : alk t b y = .i k' c) (hv : binI op k a k' c = some v) : evP (sets b t) (.bin op x y) = some v := by
  simp only [evP, ev_bin, opd_sets, hx, hy, hv]
theorem p_not {c : Bool} (hx : alk t b x = .b c) : evP (sets b t) (.not x) = some (.b (!c)) := by simp only [evP, ev_not, opd_sets, hx]
theorem p_neg {k : IntKind} {a : Int} (hx : alk t b x = .i k a) : evP (sets b t) (.neg x) = some (.i k (wr k (0 - a))) := by simp only [evP, ev_neg, opd_sets, hx, mkI_eq]
theorem p_conv {k k' : IntKind} {a : Int} (hx : alk t b x = .i k' a) : evP (sets b t) (.conv k x) = some (.i k (wr k a)) := by simp only [evP, ev_conv, opd_sets, hx, mkI_eq]
theorem p_beq {c d : Bool} {neg : Bool} (hx : alk t b x = .b c) (hy : alk t b y = .b d) : evP (sets b t) (.beq neg x y) = some (.b (if neg then !(c == d) else c == d)) := by simp only [evP, ev_beq, opd_sets, hx, hy]
def mxV (m : Bool) (a c : Int) : Int := if m then (if c > a then c else a) else (if c < a then c else a)
theorem p_mx {m : Bool} {k k' : IntKind} {a c : Int} (hx : alk t b x = .i k a) (hy : alk t b y = .i k' c) : evP (sets b t) (.mx m x y) = some (.i k (mxV m a c)) := by
  simp only [evP, ev_mx, opd_sets, hx, hy, mkI_eq, mxV]

/- the others: by their own values -/
theorem o_nilck (hx : alk t b x = vx) (h : evP .e (.nilck (.c vx)) = some r) : evP (sets b t) (.nilck x) = some r := by
  simp only [evP, ev_nilck, opd_sets, opd_c, hx] at h ⊢; exact h
theorem o_nilcmp {neg : Bool} (hx : alk t b x = vx) (h : evP .e (.nilcmp neg (.c vx)) = some r) : evP (sets b t) (.nilcmp neg x) = some r := by
  simp only [evP, ev_nilcmp, opd_sets, opd_c, hx] at h ⊢; exact h
theorem o_field {one : Bool} {off n : Nat} (hx : alk t b x = vx) (h : evP .e (.field one off n (.c vx)) = some r) : evP (sets b t) (.field one off n x) = some r := by
  simp only [evP, ev_field, opd_sets, opd_c, hx] at h ⊢; exact h
theorem o_faddr {off : Nat} (hx : alk t b x = vx) (h : evP .e (.faddr off (.c vx)) = some r) : evP (sets b t) (.faddr off x) = some r := by
  simp only [evP, ev_faddr, opd_sets, opd_c, hx] at h ⊢; exact h
theorem o_ixA {len es : Nat} (hx : alk t b x = vx) (hy : alk t b y = vy) (h : evP .e (.ixA len es (.c vx) (.c vy)) = some r) : evP (sets b t) (.ixA len es x y) = some r := by
  simp only [evP, ev_ixA, opd_sets, opd_c, hx, hy] at h ⊢; exact h
theorem o_ixS {es : Nat} (hx : alk t b x = vx) (hy : alk t b y = vy) (h : evP .e (.ixS es (.c vx) (.c vy)) = some r) : evP (sets b t) (.ixS es x y) = some r := by
  simp only [evP, ev_ixS, opd_sets, opd_c, hx, hy] at h ⊢; exact h
theorem o_ixV {len es : Nat} {one : Bool} (hx : alk t b x = vx) (hy : alk t b y = vy) (h : evP .e (.ixV len es one (.c vx) (.c vy)) = some r) : evP (sets b t) (.ixV len es one x y) = some r := by
  simp only [evP, ev_ixV, opd_sets, opd_c, hx, hy] at h ⊢; exact h
theorem o_ixStr (hx : alk t b x = vx) (hy : alk t b y = vy) (h : evP .e (.ixStr (.c vx) (.c vy)) = some r) : evP (sets b t) (.ixStr x y) = some r := by
  simp only [evP, ev_ixStr, opd_sets, opd_c, hx, hy] at h ⊢; exact h
theorem o_ext {i : Nat} (hx : alk t b x = vx) (h : evP .e (.ext i (.c vx)) = some r) : evP (sets b t) (.ext i x) = some r := by
  simp only [evP, ev_ext, opd_sets, opd_c, hx] at h ⊢; exact h
theorem o_len {s : Bool} (hx : alk t b x = vx) (h : evP .e (.len s (.c vx)) = some r) : evP (sets b t) (.len s x) = some r := by
  simp only [evP, ev_len, opd_sets, opd_c, hx] at h ⊢; exact h
theorem o_mkfn {f : Nat} {l l' : List AOpd} {vs vs' : List AVal} (h1 : l.map (alk t b) = vs) (h2 : l'.map (alk t b) = vs') : evP (sets b t) (.mkfn f l l') = some (.fn f vs vs') := by
  simp only [evP, ev_mkfn, map_opd, h1, h2]
theorem o_build {zs : List AVal} {ps : List Pt} {vs : List ((Nat × Nat) × AVal)} (h1 : ps.map (ptv (alk t b)) = vs) (h : (fillA zs vs).map .agg = some r) : evP (sets b t) (.build zs ps) = some r := by
  simp only [evP, ev_build, map_pts, h1]; exact h
theorem o_slA {n es : Nat} {lo hi : Option AOpd} {lo' hi' : Option AVal} (hx : alk t b x = vx) (h1 : lo.map (alk t b) = lo') (h2 : hi.map (alk t b) = hi') (h : evP .e (.slA n es (.c vx) (lo'.map .c) (hi'.map .c)) = some r) :
    evP (sets b t) (.slA n es x lo hi) = some r := by
  simp only [evP, ev_slA, opd_sets, opd_c, hx, opt_opd, h1, h2, Option.map_map] at h ⊢
  have e : (opd Tr.e ∘ AOpd.c) = id := rfl
  simp only [e, Option.map_id, id] at h
  exact h
theorem slS_c {es : Nat} {lo hi mx : Option AOpd} {lo' hi' mx' : Option AVal} (hx : alk t b x = vx) (h1 : lo.map (alk t b) = lo') (h2 : hi.map (alk t b) = hi') (h3 : mx.map (alk t b) = mx') :
    evP (sets b t) (.slS es x lo hi mx) = evP .e (.slS es (.c vx) (lo'.map .c) (hi'.map .c) (mx'.map .c)) := by
  subst h1 h2 h3 hx
  have e : (opd Tr.e ∘ AOpd.c ∘ alk t b) = alk t b := rfl
  have e2 : ∀ y, opd Tr.e (AOpd.c y) = y := fun _ => rfl
  cases mx with
  | none =>
    cases hi <;> cases lo <;> simp [evP, ev_slS, sl_lh, opd_sets, e2]
  | some mm =>
    cases hi <;> cases lo <;> simp [evP, ev_slS, sl_mx, nsl_mx, opd_sets, e2]
theorem o_slS {es : Nat} {lo hi mx : Option AOpd} {lo' hi' mx' : Option AVal} (hx : alk t b x = vx) (h1 : lo.map (alk t b) = lo') (h2 : hi.map (alk t b) = hi') (h3 : mx.map (alk t b) = mx')
    (h : evP .e (.slS es (.c vx) (lo'.map .c) (hi'.map .c) (mx'.map .c)) = some r) : evP (sets b t) (.slS es x lo hi mx) = some r := by
  rw [slS_c hx h1 h2 h3]; exact h
theorem o_sbin {op : BinOp} (hx : alk t b x = vx) (hy : alk t b y = vy) (h : evP .e (.sbin op (.c vx) (.c vy)) = some r) : evP (sets b t) (.sbin op x y) = some r := by
  simp only [evP, ev_sbin, opd_sets, opd_c, hx, hy] at h ⊢; exact h
theorem o_chr (hx : alk t b x = vx) (h : evP .e (.chr (.c vx)) = some r) : evP (sets b t) (.chr x) = some r := by
  simp only [evP, ev_chr, opd_sets, opd_c, hx] at h ⊢; exact h
theorem o_mvS (hx : alk t b x = vx) (h : evP .e (.mvS (.c vx)) = some r) : evP (sets b t) (.mvS x) = some r := by
  simp only [evP, ev_mvS, opd_sets, opd_c, hx] at h ⊢; exact h
theorem o_mki {ty : Nat} (hx : alk t b x = vx) (h : some (AVal.ifc ty vx) = some r) : evP (sets b t) (.mki ty x) = some r := by
  simp only [evP, opd_sets, hx]; exact h
theorem o_mkbm {name : String} (hx : alk t b x = vx) (h : some (AVal.bm name vx) = some r) : evP (sets b t) (.mkbm name x) = some r := by
  simp only [evP, opd_sets, hx]; exact h
theorem o_nilm {tabs : List (String × List MRow)} (hx : alk t b x = vx) (h : evP .e (.nilm tabs (.c vx)) = some r) : evP (sets b t) (.nilm tabs x) = some r := by
  simp only [evP, ev_nilm, ev_nilck, opd_sets, opd_c, hx] at h ⊢; exact h
theorem p_mx3 {m : Bool} {k : IntKind} {z : AOpd} {a c d : Int} (hx : alk t b x = .i k a) (hy : alk t b y = .i k c) (hz : alk t b z = .i k d) : evP (sets b t) (.mx3 m x y z) = some (.i k (mxV m (mxV m a c) d)) := by
  have hk : kEq k k = true := (kEq_iff k k).2 rfl
  cases m <;> simp [evP, ev_mx3, opd_sets, hx, hy, hz, hk, mkI_eq, mxI, mxV]
theorem o_seq {neg : Bool} {offs : List Nat} (hx : alk t b x = vx) (hy : alk t b y = vy) (h : evP .e (.seq neg offs (.c vx) (.c vy)) = some r) : evP (sets b t) (.seq neg offs x y) = some r := by
  simp only [evP, ev_seq, opd_sets, opd_c, hx, hy] at h ⊢; exact h
theorem o_slStr {lo hi : Option AOpd} {lo' hi' : Option AVal} (hx : alk t b x = vx) (h1 : lo.map (alk t b) = lo') (h2 : hi.map (alk t b) = hi') (h : evP .e (.slStr (.c vx) (lo'.map .c) (hi'.map .c)) = some r) :
    evP (sets b t) (.slStr x lo hi) = some r := by
  simp only [evP, ev_slStr, opd_sets, opd_c, hx, opt_opd, h1, h2, Option.map_map] at h ⊢
  have e : (opd Tr.e ∘ AOpd.c) = id := rfl
  simp only [e, Option.map_id, id] at h
  exact h
theorem on : (none : Option AOpd).map (alk t b) = none := rfl
theorem os (hx : alk t b x = vx) : (some x).map (alk t b) = some vx := by simp [hx]
end

/- integers -/
theorem kEq_self (k : IntKind) : kEq k k = true := (kEq_iff k k).2 rfl
theorem b_add {k : IntKind} {a c : Int} : binI .add k a k c = some (.i k (wr k (a + c))) := by simp [binI, kEq_self, binK, mkI_eq]
theorem b_sub {k : IntKind} {a c : Int} : binI .sub k a k c = some (.i k (wr k (a - c))) := by simp [binI, kEq_self, binK, mkI_eq]
theorem b_mul {k : IntKind} {a c : Int} : binI .mul k a k c = some (.i k (wr k (a * c))) := by simp [binI, kEq_self, binK, mkI_eq]
theorem b_eql {k : IntKind} {a c : Int} : binI .eql k a k c = some (.b (eqI a c)) := by simp [binI, kEq_self, binK]
theorem b_neq {k : IntKind} {a c : Int} : binI .neq k a k c = some (.b (!eqI a c)) := by simp [binI, kEq_self, binK]
theorem b_lss {k : IntKind} {a c : Int} : binI .lss k a k c = some (.b (ltI a c)) := by simp [binI, kEq_self, binK]
theorem b_leq {k : IntKind} {a c : Int} : binI .leq k a k c = some (.b (!ltI c a)) := by simp [binI, kEq_self, binK]
theorem b_gtr {k : IntKind} {a c : Int} : binI .gtr k a k c = some (.b (ltI c a)) := by simp [binI, kEq_self, binK]
theorem b_geq {k : IntKind} {a c : Int} : binI .geq k a k c = some (.b (!ltI a c)) := by simp [binI, kEq_self, binK]
theorem b_quo {k : IntKind} {a c : Int} (h : (!eqI c (.ofNat 0)) = true) : binI .quo k a k c = some (.i k (wr k (a.tdiv c))) := by
  simp only [Bool.not_eq_true'] at h
  have h' : eqI c 0 = false := h
  simp [binI, kEq_self, binK, quoI, h', mkI_eq]
theorem b_rem {k : IntKind} {a c : Int} (h : (!eqI c (.ofNat 0)) = true) : binI .rem k a k c = some (.i k (a.tmod c)) := by
  simp only [Bool.not_eq_true'] at h
  have h' : eqI c 0 = false := h
  simp [binI, kEq_self, binK, remI, h', mkI_eq]
def shlV (k : IntKind) (x y : Int) : Int := wr k (x * Int.ofNat (2 ^ (min y.toNat k.bits)))
def shrV (k : IntKind) (x y : Int) : Int := x.fdiv (Int.ofNat (2 ^ (min y.toNat k.bits)))
theorem b_shl {k k' : IntKind} {a c : Int} (h : (!ltI c (.ofNat 0)) = true) : binI .shl k a k' c = some (.i k (shlV k a c)) := by
  cases c with
  | ofNat m => simp [binI, shlI, mkI_eq, shlV]
  | negSucc m => simp [ltI] at h
theorem b_shr {k k' : IntKind} {a c : Int} (h : (!ltI c (.ofNat 0)) = true) : binI .shr k a k' c = some (.i k (shrV k a c)) := by
  cases c with
  | ofNat m => simp [binI, shrI, mkI_eq, shrV]
  | negSucc m => simp [ltI] at h
def numA : Option AVal → Int
  | some (.i _ n) => n
  | _ => 0
def bitV (op : BinOp) (k : IntKind) (x y : Int) : Int := numA (bits op k x y)
theorem mkN_eq (k : IntKind) (n : Nat) : mkN k n = .i k (.ofNat n) := by cases n <;> rfl
theorem bits_num {op : BinOp} {k : IntKind} {a c : Int} (h : op = .and ∨ op = .or ∨ op = .xor ∨ op = .andNot) : bits op k a c = some (.i k (bitV op k a c)) := by
  have key : ∃ n, bits op k a c = some (.i k n) := by
    have hs : ∀ a c, ∃ n, bitsS op k a c = some (.i k n) := by
      intro a c
      rcases h with rfl | rfl | rfl | rfl <;> simp [bitsS, mkI_eq]
    have h8 : ∀ a c, ∃ n, bits8 op a c = some (.i .u8 n) := by
      intro a c
      rcases h with rfl | rfl | rfl | rfl <;> simp [bits8, mkN_eq]
    cases k <;> try exact hs a c
    cases a with
    | ofNat a => cases c with
      | ofNat c =>
        simp only [bits]
        cases (Nat.blt a 256 && Nat.blt c 256)
        · exact hs _ _
        · exact h8 _ _
      | negSucc c => exact hs _ _
    | negSucc a => exact hs _ _
  obtain ⟨n, hn⟩ := key
  simp [bitV, hn, numA]
theorem b_and {k : IntKind} {a c : Int} : binI .and k a k c = some (.i k (bitV .and k a c)) := by simp [binI, kEq_self, binK, bits_num]
theorem b_or {k : IntKind} {a c : Int} : binI .or k a k c = some (.i k (bitV .or k a c)) := by simp [binI, kEq_self, binK, bits_num]
theorem b_xor {k : IntKind} {a c : Int} : binI .xor k a k c = some (.i k (bitV .xor k a c)) := by simp [binI, kEq_self, binK, bits_num]
theorem b_andNot {k : IntKind} {a c : Int} : binI .andNot k a k c = some (.i k (bitV .andNot k a c)) := by simp [binI, kEq_self, binK, bits_num]

/- memory -/
def stepM (ro : List ABlk) (m : Mm) (k : Kind) : Option (AVal × Mm) :=
  match stepK ro (m.st .e) k with
  | some (v, s) => some (v, s.mm)
  | none => none
theorem stepM_inv {ro : List ABlk} {m m1 : Mm} {k : Kind} {v : AVal} (h : stepM ro m k = some (v, m1)) : ∃ s, stepK ro (m.st .e) k = some (v, s) ∧ s.mm = m1 := by
  unfold stepM at h
  split at h
  · rename_i v' s e
    cases h
    exact ⟨s, e, rfl⟩
  · cases h

def ldM (ro : List ABlk) (m : Mm) (one : Bool) (n : Nat) (v : AVal) : Option AVal :=
  match v with
  | .p (some q) => rd ro m.h one n q
  | _ => none
def callM (call : Caller) (m : Mm) (f : Nat) (args : List AVal) : Option (AVal × Mm) :=
  match call f args m.h with
  | some (v, h, lw, lp) => some (v, ⟨h, min m.lw lw, min m.lp lp⟩)
  | none => none
def callvM (call : Caller) (m : Mm) (x : AVal) (args : List AVal) : Option (AVal × Mm) :=
  match x with
  | .fn f first capt => callM call m f (first ++ args ++ capt)
  | _ => none
def calliM (call : Caller) (m : Mm) (tab : List MRow) (x : AVal) (args : List AVal) : Option (AVal × Mm) :=
  match mget tab x with
  | some (f, r) => callM call m f (r :: args)
  | none => none

section
variable {call : Caller} {ro : List ABlk} {t : Tr} {b : Bs} {x y : AOpd} {v vx vy : AVal} {m m1 : Mm}

theorem s_pure {k : PK} (h : evP (sets b t) k = some v) : stepC call ro (m.st (sets b t)) (.pure k) = some (v, m.st (sets b t)) := by
  simp [stepC, stepK, h]
theorem s_ld {one : Bool} {n : Nat} (hx : alk t b x = vx) (h : ldM ro m one n vx = some v) : stepC call ro (m.st (sets b t)) (.ld one n x) = some (v, m.st (sets b t)) := by
  unfold ldM at h
  split at h
  · simp [stepC, stepK, opd_sets, hx, h]
  · cases h
def btsM (ro : List ABlk) (m : Mm) (v : AVal) : Option AVal := (st_bts ro (m.st .e) v).map (·.1)
theorem s_bts (hx : alk t b x = vx) (h : btsM ro m vx = some v) : stepC call ro (m.st (sets b t)) (.bts x) = some (v, m.st (sets b t)) := by
  simp only [stepC, stepK, opd_sets, hx]
  unfold btsM at h
  unfold st_bts at h ⊢
  split at h
  · simp only [Option.map_some, Option.some.injEq] at h
    subst h; rfl
  · rename_i q n c
    split at h
    · rename_i bb hb
      have hb' : rdB ro m.h q = some bb := hb
      simp only [hb']
      cases hc : Nat.ble (q.off + n) bb.n
      · rw [hc] at h; cases h
      · rw [hc] at h
        simp only [cond_true] at h ⊢
        cases hl : bytesA (bb.c.row q.off n) with
        | none => rw [hl] at h; cases h
        | some l => rw [hl] at h; simp only [Option.map_some, Option.some.injEq] at h; subst h; rfl
    · cases h
  · cases h
theorem s_al {e : Nat} {z : List AVal} (h : stepM ro m (.al e z) = some (v, m1)) : stepC call ro (m.st (sets b t)) (.al e z) = some (v, m1.st (sets b t)) := by
  simp only [stepM, stepK, newB, St.mm, Option.some.injEq, Prod.mk.injEq] at h
  obtain ⟨rfl, rfl⟩ := h
  rfl
theorem s_bx {e n : Nat} (hx : alk t b x = vx) (h : stepM ro m (.bx e n (.c vx)) = some (v, m1)) : stepC call ro (m.st (sets b t)) (.bx e n x) = some (v, m1.st (sets b t)) := by
  simp only [stepC, stepM, stepK, opd_sets, opd_c, hx, st_bx, newB] at h ⊢
  cases hb : Nat.beq vx.cells.length n
  · rw [hb] at h; cases h
  · rw [hb] at h; cases h; rfl
theorem s_bsl {e es len : Nat} {z : List AVal} {ps : List Pt} {vs : List ((Nat × Nat) × AVal)} (h1 : ps.map (ptv (alk t b)) = vs) (h : stepM ro m (.bsl e es z len (vs.map fun p => (p.1, .c p.2))) = some (v, m1)) :
    stepC call ro (m.st (sets b t)) (.bsl e es z len ps) = some (v, m1.st (sets b t)) := by
  subst h1
  have e2 : ((ps.map (ptv (alk t b))).map (fun p => (p.1, AOpd.c p.2))).map (fun (x, o) => (x, opd Tr.e o)) = ps.map (ptv (alk t b)) := by
    rw [List.map_map, List.map_map]
    rfl
  simp only [stepC, stepM, stepK, st_bsl, newB, map_pts] at h ⊢
  rw [e2] at h
  split at h
  · rename_i hh
    cases h
    split at hh
    · cases hh; rfl
    · cases hh
  · cases h
theorem s_st {n : Nat} (hx : alk t b x = vx) (hy : alk t b y = vy) (h : stepM ro m (.st n (.c vx) (.c vy)) = some (v, m1)) : stepC call ro (m.st (sets b t)) (.st n x y) = some (v, m1.st (sets b t)) := by
  simp only [stepC, stepM, stepK, opd_sets, opd_c, hx, hy] at h ⊢
  split at h
  · rename_i hh
    cases h
    split at hh
    · simp only [st_st] at hh ⊢
      cases hb : Nat.beq vy.cells.length n
      · rw [hb] at hh; cases hh
      · rw [hb] at hh
        simp only [cond_true] at hh ⊢
        split at hh
        · rename_i e3; cases hh; rfl
        · cases hh
    · cases hh
  · cases h
theorem st_cpy_t {ro : List ABlk} {st : St} {t' : Tr} {es : Nat} {vx vy : AVal} : st_cpy ro { st with t := t' } es vx vy = (st_cpy ro st es vx vy).map fun x => (x.1, { x.2 with t := t' }) := by
  unfold st_cpy
  cases vx <;> try rfl
  cases vy <;> try rfl
  rename_i q n c q2 n2 c2
  dsimp only
  generalize rdB ro st.h q2 = o
  cases o with
  | none => rfl
  | some b =>
    dsimp only
    generalize Nat.ble (q2.off + min n2 n * es) b.n = c
    cases c with
    | false => rfl
    | true =>
      simp only [cond_true]
      generalize wrH st.h q (b.c.row q2.off (min n2 n * es)) = o
      cases o <;> rfl
theorem s_cpy {es : Nat} (hx : alk t b x = vx) (hy : alk t b y = vy) (h : stepM ro m (.cpy es (.c vx) (.c vy)) = some (v, m1)) : stepC call ro (m.st (sets b t)) (.cpy es x y) = some (v, m1.st (sets b t)) := by
  simp only [stepC, stepM, stepK, opd_sets, opd_c, hx, hy] at h ⊢
  have e1 := st_cpy_t (ro := ro) (vx := vx) (vy := vy) (st := m.st .e) (t' := sets b t) (es := es)
  have e2 : { (m.st .e) with t := sets b t } = m.st (sets b t) := rfl
  rw [e2] at e1
  rw [e1]
  split at h
  · rename_i hh
    cases h
    rw [hh]; rfl
  · cases h
theorem s_mk {e es bytes : Nat} {z : List AVal} (hx : alk t b x = vx) (hy : alk t b y = vy) (h : stepM ro m (.mk e es bytes z (.c vx) (.c vy)) = some (v, m1)) :
    stepC call ro (m.st (sets b t)) (.mk e es bytes z x y) = some (v, m1.st (sets b t)) := by
  simp only [stepC, stepM, stepK, opd_sets, opd_c, hx, hy, st_mk, newB, cond_eq_ite] at h ⊢
  split at h
  · rename_i hh
    cases h
    split at hh
    · split at hh
      · split at hh
        · split at hh
          · split at hh
            · cases hh; simp_all [St.mm]
            · cases hh
          · cases hh
        · cases hh
      · cases hh
    · cases hh
  · cases h
theorem app_known_t {st : St} {t' : Tr} {e es bytes : Nat} {q : Loc} {len c : Nat} {ys : List AVal} {n : Nat} :
    app_known ro { st with t := t' } e es bytes q len c ys n = (app_known ro st e es bytes q len c ys n).map fun p => (p.1, { p.2 with t := t' }) := by
  unfold app_known
  cases Nat.ble (len + n) c
  · simp only [cond_false]
    cases rdB ro st.h q with
    | none => rfl
    | some bb =>
      simp only
      cases (Nat.ble (q.off + len * es) bb.n && fits (len + n) bytes) <;> rfl
  · simp only [cond_true]
    cases Nat.beq (n * es) 0
    · simp only [cond_false]
      cases wrH st.h { q with off := q.off + len * es } ys <;> rfl
    · rfl
theorem app_grow_t {st : St} {t' : Tr} {e es bytes : Nat} {q : Loc} {len : Nat} {ys : List AVal} {n : Nat} :
    app_grow { st with t := t' } e es bytes q len ys n = (app_grow st e es bytes q len ys n).map fun p => (p.1, { p.2 with t := t' }) := by
  unfold app_grow
  cases (q.ro || !Nat.beq q.off 0 || Nat.beq n 0)
  · simp only [cond_false]
    cases lget st.h q.b with
    | none => rfl
    | some o => cases o with
      | none => rfl
      | some bb =>
        simp only
        cases (Nat.beq bb.e e && Nat.ble (len * es) bb.n && fits (len + n) bytes && ones ys && Nat.blt 0 bb.n) <;> rfl
  · rfl
theorem st_app_t {st : St} {t' : Tr} {e es bytes : Nat} :
    st_app ro { st with t := t' } e es bytes vx vy = (st_app ro st e es bytes vx vy).map fun p => (p.1, { p.2 with t := t' }) := by
  unfold st_app
  cases app_src ro st.h es vy with
  | none => rfl
  | some p =>
    obtain ⟨ys, n⟩ := p
    simp only
    cases vx with
    | nsl =>
      simp only
      cases Nat.beq n 0
      · simp only [cond_false]
        cases fits n bytes <;> rfl
      · rfl
    | sl q len c =>
      cases c with
      | known c => exact app_known_t
      | grow => exact app_grow_t
      | any => rfl
    | _ => rfl
theorem s_mkm (h : stepM ro m .mkm = some (v, m1)) : stepC call ro (m.st (sets b t)) .mkm = some (v, m1.st (sets b t)) := by
  simp only [stepM, stepK, st_mkm, St.mm, Option.some.injEq, Prod.mk.injEq] at h
  obtain ⟨rfl, rfl⟩ := h
  rfl
theorem s_mlk {ok : Bool} {z : AVal} (hx : alk t b x = vx) (hy : alk t b y = vy) (h : stepM ro m (.mlk ok z (.c vx) (.c vy)) = some (v, m1)) : stepC call ro (m.st (sets b t)) (.mlk ok z x y) = some (v, m1.st (sets b t)) := by
  simp only [stepC, stepM, stepK, opd_sets, opd_c, hx, hy] at h ⊢
  unfold st_mlk at h ⊢
  split at h
  · rename_i v' s e
    split at e
    · rename_i bb
      split at e
      · rename_i blk hb
        have hb1 : lget (m.st (sets b t)).h bb = some (some blk) := hb
        split at e
        · rename_i L hg
          simp only [hb1, hg]
          split at e
          · simp only [Option.some.injEq, Prod.mk.injEq] at e
            obtain ⟨rfl, rfl⟩ := e
            cases h
            rfl
          · cases e
        · cases e
      · cases e
    · cases e
  · cases h
theorem s_mup {z : AOpd} {vz : AVal} (hx : alk t b x = vx) (hy : alk t b y = vy) (hz : alk t b z = vz) (h : stepM ro m (.mup (.c vx) (.c vy) (.c vz)) = some (v, m1)) : stepC call ro (m.st (sets b t)) (.mup x y z) = some (v, m1.st (sets b t)) := by
  simp only [stepC, stepM, stepK, opd_sets, opd_c, hx, hy, hz] at h ⊢
  unfold st_mup at h ⊢
  split at h
  · rename_i v' s e
    split at e
    · rename_i bb
      split at e
      · rename_i blk hb
        have hb1 : lget (m.st (sets b t)).h bb = some (some blk) := hb
        split at e
        · rename_i L hg
          simp only [hb1, hg]
          split at e
          · cases hsc : vz.scalar
            · rw [hsc] at e; cases e
            · rw [hsc] at e
              simp only [cond_true, Option.some.injEq, Prod.mk.injEq] at e ⊢
              obtain ⟨rfl, rfl⟩ := e
              cases h
              exact ⟨rfl, rfl⟩
          · cases e
        · cases e
      · cases e
    · cases e
  · cases h
theorem s_app {e es bytes : Nat} {z : List AVal} (hx : alk t b x = vx) (hy : alk t b y = vy) (h : stepM ro m (.app e es bytes z (.c vx) (.c vy)) = some (v, m1)) :
    stepC call ro (m.st (sets b t)) (.app e es bytes z x y) = some (v, m1.st (sets b t)) := by
  simp only [stepC, stepM, stepK, opd_sets, opd_c, hx, hy] at h ⊢
  have e1 := st_app_t (ro := ro) (vx := vx) (vy := vy) (st := m.st .e) (t' := sets b t) (e := e) (es := es) (bytes := bytes)
  have e2 : { (m.st .e) with t := sets b t } = m.st (sets b t) := rfl
  rw [e2] at e1
  rw [e1]
  split at h
  · rename_i hh
    cases h
    rw [hh]; rfl
  · cases h
theorem s_call {f : Nat} {l : List AOpd} {vs : List AVal} (h1 : l.map (alk t b) = vs) (h : callM call m f vs = some (v, m1)) : stepC call ro (m.st (sets b t)) (.call f l) = some (v, m1.st (sets b t)) := by
  simp only [stepC, map_opd, h1]
  unfold callM at h
  split at h
  · rename_i e; cases h; rw [e]
  · cases h
theorem s_callv {l : List AOpd} {vs : List AVal} (hx : alk t b x = vx) (h1 : l.map (alk t b) = vs) (h : callvM call m vx vs = some (v, m1)) : stepC call ro (m.st (sets b t)) (.callv x l) = some (v, m1.st (sets b t)) := by
  simp only [stepC, map_opd, h1, opd_sets, hx]
  unfold callvM at h
  split at h
  · simp only
    unfold callM at h
    split at h
    · rename_i e; cases h; rw [e]
    · cases h
  · cases h

theorem s_calli {tab : List MRow} {l : List AOpd} {vs : List AVal} (hx : alk t b x = vx) (h1 : l.map (alk t b) = vs) (h : calliM call m tab vx vs = some (v, m1)) : stepC call ro (m.st (sets b t)) (.calli tab x l) = some (v, m1.st (sets b t)) := by
  simp only [stepC, map_opd, h1, opd_sets, hx]
  unfold calliM at h
  split at h
  · rename_i e
    rw [e]
    simp only
    unfold callM at h
    split at h
    · rename_i e; cases h; rw [e]
    · cases h
  · cases h

/- lists of operations -/
def WO (call : Caller) (ro : List ABlk) (l : List AOp) (st : St) (Q : St → Prop) : Prop := ∃ st', runOps call ro l st = some st' ∧ Q st'

variable {l : List AOp} {Q : St → Prop}
theorem wo_nil {st : St} (h : Q st) : WO call ro [] st Q := ⟨st, rfl, h⟩
theorem wo_step {d : Nat} {k : Kind} (h : stepC call ro (m.st (sets b t)) k = some (v, m1.st (sets b t))) (hn : WO call ro l (m1.st (sets ((d, v) :: b) t)) Q) : WO call ro (⟨some d, none, k⟩ :: l) (m.st (sets b t)) Q := by
  obtain ⟨st', h1, h2⟩ := hn
  refine ⟨st', ?_, h2⟩
  simp only [runOps, wantedA, if_true, h]
  exact h1
theorem wo_stepN {k : Kind} (h : stepC call ro (m.st (sets b t)) k = some (v, m1.st (sets b t))) (hn : WO call ro l (m1.st (sets b t)) Q) : WO call ro (⟨none, none, k⟩ :: l) (m.st (sets b t)) Q := by
  obtain ⟨st', h1, h2⟩ := hn
  refine ⟨st', ?_, h2⟩
  simp only [runOps, wantedA, if_true, h]
  exact h1
theorem wo_take {d s : Nat} {w : Bool} {k : Kind} (hg : alk t b (.t s) = .b w) (h : stepC call ro (m.st (sets b t)) k = some (v, m1.st (sets b t))) (hn : WO call ro l (m1.st (sets ((d, v) :: b) t)) Q) :
    WO call ro (⟨some d, some (s, w), k⟩ :: l) (m.st (sets b t)) Q := by
  obtain ⟨st', h1, h2⟩ := hn
  refine ⟨st', ?_, h2⟩
  have hw : wantedA (some (s, w)) (m.st (sets b t)).t = true := by simp [wantedA, gl hg]
  simp only [runOps, hw, if_true, h]
  exact h1
theorem wo_takeN {s : Nat} {w : Bool} {k : Kind} (hg : alk t b (.t s) = .b w) (h : stepC call ro (m.st (sets b t)) k = some (v, m1.st (sets b t))) (hn : WO call ro l (m1.st (sets b t)) Q) :
    WO call ro (⟨none, some (s, w), k⟩ :: l) (m.st (sets b t)) Q := by
  obtain ⟨st', h1, h2⟩ := hn
  refine ⟨st', ?_, h2⟩
  have hw : wantedA (some (s, w)) (m.st (sets b t)).t = true := by simp [wantedA, gl hg]
  simp only [runOps, hw, if_true, h]
  exact h1
/-- a guard that is not met -/
def offG (v : AVal) (w : Bool) : Bool :=
  match v with
  | .b x => !(x == w)
  | _ => true
theorem wo_skip {d s : Nat} {w : Bool} {k : Kind} (hg : alk t b (.t s) = v) (ho : offG v w = true) (hn : WO call ro l (m.st (sets ((d, und) :: b) t)) Q) : WO call ro (⟨some d, some (s, w), k⟩ :: l) (m.st (sets b t)) Q := by
  obtain ⟨st', h1, h2⟩ := hn
  refine ⟨st', ?_, h2⟩
  have hw : wantedA (some (s, w)) (m.st (sets b t)).t = false := by
    simp only [wantedA, gl hg]
    unfold offG at ho
    split at ho <;> simp_all
  simp only [runOps, hw]
  exact h1
theorem wo_skipN {s : Nat} {w : Bool} {k : Kind} (hg : alk t b (.t s) = v) (ho : offG v w = true) (hn : WO call ro l (m.st (sets b t)) Q) : WO call ro (⟨none, some (s, w), k⟩ :: l) (m.st (sets b t)) Q := by
  obtain ⟨st', h1, h2⟩ := hn
  refine ⟨st', ?_, h2⟩
  have hw : wantedA (some (s, w)) (m.st (sets b t)).t = false := by
    simp only [wantedA, gl hg]
    unfold offG at ho
    split at ho <;> simp_all
  simp only [runOps, hw]
  exact h1
theorem runOps_append {l' : List AOp} : ∀ {l : List AOp} {st : St}, runOps call ro (l ++ l') st = (runOps call ro l st).bind (runOps call ro l')
  | [], _ => rfl
  | o :: l, st => by
    simp only [List.cons_append, runOps]
    split
    · split
      · exact runOps_append
      · rfl
    · exact runOps_append
theorem wo_join {st : St} (k : Nat) (J : Mm → Tr → Prop) (h : WO call ro (l.take k) st (fun st => ∃ m1 t1, st = m1.st t1 ∧ J m1 t1)) (hn : ∀ m1 t1, J m1 t1 → WO call ro (l.drop k) (m1.st (sets [] t1)) Q) : WO call ro l st Q := by
  obtain ⟨st', h1, m1, t1, rfl, hj⟩ := h
  obtain ⟨st2, h2, h3⟩ := hn m1 t1 hj
  refine ⟨st2, ?_, h3⟩
  conv => lhs; rw [← List.take_append_drop k l]
  rw [runOps_append, h1]
  exact h2

/- lists of operations in a function that asks for rounds -/
def WOY (call : Caller) (rnd : Rounds) (ro : List ABlk) (l : List AOp) (st : St) (Q : St → Prop) : Prop := ∃ st', runOpsY call rnd ro l st = some st' ∧ Q st'

variable {rnd : Rounds}
theorem wy_nil {st : St} (h : Q st) : WOY call rnd ro [] st Q := ⟨st, rfl, h⟩
theorem wy_step {d : Nat} {k : Kind} (h : stepY call rnd ro (m.st (sets b t)) k = some (v, m1.st (sets b t))) (hn : WOY call rnd ro l (m1.st (sets ((d, v) :: b) t)) Q) : WOY call rnd ro (⟨some d, none, k⟩ :: l) (m.st (sets b t)) Q := by
  obtain ⟨st', h1, h2⟩ := hn
  refine ⟨st', ?_, h2⟩
  simp only [runOpsY, wantedA, if_true, h]
  exact h1
theorem wy_stepN {k : Kind} (h : stepY call rnd ro (m.st (sets b t)) k = some (v, m1.st (sets b t))) (hn : WOY call rnd ro l (m1.st (sets b t)) Q) : WOY call rnd ro (⟨none, none, k⟩ :: l) (m.st (sets b t)) Q := by
  obtain ⟨st', h1, h2⟩ := hn
  refine ⟨st', ?_, h2⟩
  simp only [runOpsY, wantedA, if_true, h]
  exact h1
theorem wy_take {d s : Nat} {w : Bool} {k : Kind} (hg : alk t b (.t s) = .b w) (h : stepY call rnd ro (m.st (sets b t)) k = some (v, m1.st (sets b t))) (hn : WOY call rnd ro l (m1.st (sets ((d, v) :: b) t)) Q) :
    WOY call rnd ro (⟨some d, some (s, w), k⟩ :: l) (m.st (sets b t)) Q := by
  obtain ⟨st', h1, h2⟩ := hn
  refine ⟨st', ?_, h2⟩
  have hw : wantedA (some (s, w)) (m.st (sets b t)).t = true := by simp [wantedA, gl hg]
  simp only [runOpsY, hw, if_true, h]
  exact h1
theorem wy_takeN {s : Nat} {w : Bool} {k : Kind} (hg : alk t b (.t s) = .b w) (h : stepY call rnd ro (m.st (sets b t)) k = some (v, m1.st (sets b t))) (hn : WOY call rnd ro l (m1.st (sets b t)) Q) :
    WOY call rnd ro (⟨none, some (s, w), k⟩ :: l) (m.st (sets b t)) Q := by
  obtain ⟨st', h1, h2⟩ := hn
  refine ⟨st', ?_, h2⟩
  have hw : wantedA (some (s, w)) (m.st (sets b t)).t = true := by simp [wantedA, gl hg]
  simp only [runOpsY, hw, if_true, h]
  exact h1
theorem wy_skip {d s : Nat} {w : Bool} {k : Kind} (hg : alk t b (.t s) = v) (ho : offG v w = true) (hn : WOY call rnd ro l (m.st (sets ((d, und) :: b) t)) Q) : WOY call rnd ro (⟨some d, some (s, w), k⟩ :: l) (m.st (sets b t)) Q := by
  obtain ⟨st', h1, h2⟩ := hn
  refine ⟨st', ?_, h2⟩
  have hw : wantedA (some (s, w)) (m.st (sets b t)).t = false := by
    simp only [wantedA, gl hg]
    unfold offG at ho
    split at ho <;> simp_all
  simp only [runOpsY, hw]
  exact h1
theorem wy_skipN {s : Nat} {w : Bool} {k : Kind} (hg : alk t b (.t s) = v) (ho : offG v w = true) (hn : WOY call rnd ro l (m.st (sets b t)) Q) : WOY call rnd ro (⟨none, some (s, w), k⟩ :: l) (m.st (sets b t)) Q := by
  obtain ⟨st', h1, h2⟩ := hn
  refine ⟨st', ?_, h2⟩
  have hw : wantedA (some (s, w)) (m.st (sets b t)).t = false := by
    simp only [wantedA, gl hg]
    unfold offG at ho
    split at ho <;> simp_all
  simp only [runOpsY, hw]
  exact h1
theorem runOpsY_append {l' : List AOp} : ∀ {l : List AOp} {st : St}, runOpsY call rnd ro (l ++ l') st = (runOpsY call rnd ro l st).bind (runOpsY call rnd ro l')
  | [], _ => rfl
  | o :: l, st => by
    simp only [List.cons_append, runOpsY]
    split
    · split
      · exact runOpsY_append
      · rfl
    · exact runOpsY_append
theorem wy_join {st : St} (k : Nat) (J : Mm → Tr → Prop) (h : WOY call rnd ro (l.take k) st (fun st => ∃ m1 t1, st = m1.st t1 ∧ J m1 t1)) (hn : ∀ m1 t1, J m1 t1 → WOY call rnd ro (l.drop k) (m1.st (sets [] t1)) Q) : WOY call rnd ro l st Q := by
  obtain ⟨st', h1, m1, t1, rfl, hj⟩ := h
  obtain ⟨st2, h2, h3⟩ := hn m1 t1 hj
  refine ⟨st2, ?_, h3⟩
  conv => lhs; rw [← List.take_append_drop k l]
  rw [runOpsY_append, h1]
  exact h2


theorem y_C {st : St} {k : Kind} {r : AVal × St} (h : stepC call ro st k = some r) : stepY call rnd ro st k = some r := by
  unfold stepY
  split
  · rename_i x args
    split
    · rename_i b hb
      simp only [stepC, hb] at h
      cases h
    · exact h
  · exact h
/-- a value is called: a function, or a round is asked for -/
def callyM (call : Caller) (rnd : Rounds) (m : Mm) (x : AVal) (args : List AVal) : Option (AVal × Mm) :=
  match x with
  | .yld b => match rnd b args m.h with
    | some (v, h, lw, lp) => some (v, ⟨h, min m.lw lw, min m.lp lp⟩)
    | none => none
  | x => callvM call m x args
theorem y_callv {l : List AOpd} {vs : List AVal} (hx : alk t b x = vx) (h1 : l.map (alk t b) = vs) (h : callyM call rnd m vx vs = some (v, m1)) : stepY call rnd ro (m.st (sets b t)) (.callv x l) = some (v, m1.st (sets b t)) := by
  unfold callyM at h
  split at h
  · rename_i bb
    simp only [stepY, map_opd, h1, opd_sets, hx]
    split at h
    · rename_i e; cases h; rw [e]
    · cases h
  · exact y_C (s_callv hx h1 h)
theorem callyM_le {c c' : Caller} (hc : CLe c c') {u u' : Rounds} (hu : RLe u u') {m : Mm} {x : AVal} {vs : List AVal} {r : AVal × Mm} (h : callyM c u m x vs = some r) : callyM c' u' m x vs = some r := by
  unfold callyM at h ⊢
  split at h
  · split at h
    · rename_i e; rw [hu _ _ _ _ e]; exact h
    · cases h
  · unfold callvM at h ⊢
    split at h
    · unfold callM at h ⊢
      split at h
      · rename_i e; rw [hc _ _ _ _ e]; exact h
      · cases h
    · cases h

/- lists of open order -/
def WA (call : Caller) (ro : List ABlk) (h0 : Heap) (l : List (AOp × Bool)) (s : AnyS) (Q : AnyS → Prop) : Prop := ∃ s', runAny call ro h0 l s = some s' ∧ Q s'
variable {la : List (AOp × Bool)} {QA : AnyS → Prop} {h0 hh hh1 : Heap} {ws ws1 : List (Loc × List AVal)} {ck ck1 : List ((Loc × List AVal) × AVal)}
theorem wa_nil {s : AnyS} (h : QA s) : WA call ro h0 [] s QA := ⟨s, rfl, h⟩
theorem wa_step {d : Nat} {k : Kind} {fl : Bool} (h : anyK call ro h0 ⟨sets b t, hh, ws, ck⟩ k fl = some (v, ⟨sets b t, hh1, ws1, ck1⟩)) (hn : WA call ro h0 la ⟨sets ((d, v) :: b) t, hh1, ws1, ck1⟩ QA) :
    WA call ro h0 ((⟨some d, none, k⟩, fl) :: la) ⟨sets b t, hh, ws, ck⟩ QA := by
  obtain ⟨st', h1, h2⟩ := hn
  refine ⟨st', ?_, h2⟩
  simp only [runAny, wantedA, if_true, h]
  exact h1
theorem wa_stepN {k : Kind} {fl : Bool} (h : anyK call ro h0 ⟨sets b t, hh, ws, ck⟩ k fl = some (v, ⟨sets b t, hh1, ws1, ck1⟩)) (hn : WA call ro h0 la ⟨sets b t, hh1, ws1, ck1⟩ QA) :
    WA call ro h0 ((⟨none, none, k⟩, fl) :: la) ⟨sets b t, hh, ws, ck⟩ QA := by
  obtain ⟨st', h1, h2⟩ := hn
  refine ⟨st', ?_, h2⟩
  simp only [runAny, wantedA, if_true, h]
  exact h1
theorem wa_take {d s : Nat} {w : Bool} {k : Kind} {fl : Bool} (hg : alk t b (.t s) = .b w) (h : anyK call ro h0 ⟨sets b t, hh, ws, ck⟩ k fl = some (v, ⟨sets b t, hh1, ws1, ck1⟩)) (hn : WA call ro h0 la ⟨sets ((d, v) :: b) t, hh1, ws1, ck1⟩ QA) :
    WA call ro h0 ((⟨some d, some (s, w), k⟩, fl) :: la) ⟨sets b t, hh, ws, ck⟩ QA := by
  obtain ⟨st', h1, h2⟩ := hn
  refine ⟨st', ?_, h2⟩
  have hw : wantedA (some (s, w)) (AnyS.mk (sets b t) hh ws ck).t = true := by simp [wantedA, gl hg]
  simp only [runAny, hw, if_true, h]
  exact h1
theorem wa_skip {d s : Nat} {w : Bool} {k : Kind} {fl : Bool} (hg : alk t b (.t s) = v) (ho : offG v w = true) (hn : WA call ro h0 la ⟨sets ((d, und) :: b) t, hh, ws, ck⟩ QA) :
    WA call ro h0 ((⟨some d, some (s, w), k⟩, fl) :: la) ⟨sets b t, hh, ws, ck⟩ QA := by
  obtain ⟨st', h1, h2⟩ := hn
  refine ⟨st', ?_, h2⟩
  have hw : wantedA (some (s, w)) (AnyS.mk (sets b t) hh ws ck).t = false := by
    simp only [wantedA, gl hg]
    unfold offG at ho
    split at ho <;> simp_all
  simp only [runAny, hw]
  exact h1
theorem runAny_append {l' : List (AOp × Bool)} : ∀ {l : List (AOp × Bool)} {st : AnyS}, runAny call ro h0 (l ++ l') st = (runAny call ro h0 l st).bind (runAny call ro h0 l')
  | [], _ => rfl
  | (o, f) :: l, st => by
    simp only [List.cons_append, runAny]
    split
    · split
      · exact runAny_append
      · rfl
    · exact runAny_append
theorem wa_join {st : AnyS} (k : Nat) (J : AnyS → Prop) (h : WA call ro h0 (la.take k) st J) (hn : ∀ s, J s → WA call ro h0 (la.drop k) s QA) : WA call ro h0 la st QA := by
  obtain ⟨s, h1, hj⟩ := h
  obtain ⟨st2, h2, h3⟩ := hn s hj
  refine ⟨st2, ?_, h3⟩
  conv => lhs; rw [← List.take_append_drop k la]
  rw [runAny_append, h1]
  exact h2
theorem a_pure {k : PK} {fl : Bool} (h : evP (sets b t) k = some v) : anyK call ro h0 ⟨sets b t, hh, ws, ck⟩ (.pure k) fl = some (v, ⟨sets b t, hh, ws, ck⟩) := by simp [anyK, h]
def ldA (ro : List ABlk) (h0 : Heap) (one : Bool) (n : Nat) (v : AVal) : Option AVal :=
  match v with
  | .p (some q) => cond (q.ro || Nat.blt q.b h0.length) (rd ro h0 one n q) none
  | _ => none
theorem a_ld {one : Bool} {n : Nat} (hx : alk t b x = vx) (h : ldA ro h0 one n vx = some v) : anyK call ro h0 ⟨sets b t, hh, ws, ck⟩ (.ld one n x) false = some (v, ⟨sets b t, hh, ws, ck⟩) := by
  unfold ldA at h
  split at h
  · rename_i q
    cases e : (q.ro || Nat.blt q.b h0.length)
    · rw [e] at h; cases h
    · rw [e] at h
      simp only [cond_true] at h
      simp [anyK, opd_sets, hx, e, h]
  · cases h
theorem a_ldF {one : Bool} {n : Nat} {q : Loc} (hx : alk t b x = .p (some q)) (h : ldA ro h0 one n (.p (some q)) = some v) :
    anyK call ro h0 ⟨sets b t, hh, ws, ck⟩ (.ld one n x) true = some (v, ⟨sets b t, hh, ws, ((q, [.b one, .i .i64 n]), v) :: ck⟩) := by
  unfold ldA at h
  simp only at h
  cases e : (q.ro || Nat.blt q.b h0.length)
  · rw [e] at h; cases h
  · rw [e] at h
    simp only [cond_true] at h
    simp [anyK, opd_sets, hx, e, h]
theorem a_st {n : Nat} {q : Loc} {fl : Bool} (hx : alk t b x = .p (some q)) (hy : alk t b y = vy) (h : Nat.beq vy.cells.length n = true) :
    anyK call ro h0 ⟨sets b t, hh, ws, ck⟩ (.st n x y) fl = some (und, ⟨sets b t, hh, (q, vy.cells) :: ws, ck⟩) := by
  have := Nat.eq_of_beq_eq_true h
  simp [anyK, opd_sets, hx, hy, this]
theorem a_al {e : Nat} {z : List AVal} {fl : Bool} : anyK call ro h0 ⟨sets b t, hh, ws, ck⟩ (.al e z) fl = some (.p (some ⟨false, hh.length, 0⟩), ⟨sets b t, hh ++ [some (blkOf e z)], ws, ck⟩) := rfl
theorem a_al' {e : Nat} {z : List AVal} {fl : Bool} (h : some (AVal.p (some ⟨false, hh.length, 0⟩)) = some v) : anyK call ro h0 ⟨sets b t, hh, ws, ck⟩ (.al e z) fl = some (v, ⟨sets b t, hh ++ [some (blkOf e z)], ws, ck⟩) := by
  cases h; rfl
def callN (call : Caller) (h0 : Heap) (f : Nat) (args : List AVal) : Option AVal :=
  cond (bels h0.length args)
    (match call f args h0 with
      | some (v, _, lw, lp) => cond (v.bel h0.length && Nat.ble h0.length lw && Nat.ble h0.length lp) (some v) none
      | none => none) none
theorem a_call {f : Nat} {l : List AOpd} {vs : List AVal} {fl : Bool} (h1 : l.map (alk t b) = vs) (h : callN call h0 f vs = some v) : anyK call ro h0 ⟨sets b t, hh, ws, ck⟩ (.call f l) fl = some (v, ⟨sets b t, hh, ws, ck⟩) := by
  simp only [anyK, map_opd, h1]
  unfold callN at h
  cases e : bels h0.length vs
  · rw [e] at h; cases h
  · rw [e] at h
    simp only [cond_true] at h
    rw [if_pos rfl]
    split at h
    · rename_i v' h' lw lp e2
      rw [e2]
      simp only
      cases e3 : (v'.bel h0.length && Nat.ble h0.length lw && Nat.ble h0.length lp)
      · rw [e3] at h; cases h
      · rw [e3] at h; cases h
        simp
    · cases h
def writesM (ro : List ABlk) (ck : List ((Loc × List AVal) × AVal)) (ws : List (Loc × List AVal)) (m : Mm) : Option Mm :=
  match writes ro ck ws (m.st .e) with
  | some s => some s.mm
  | none => none
theorem writes_t : ∀ {ws : List (Loc × List AVal)} {st : St} {t' : Tr}, writes ro ck ws { st with t := t' } = (writes ro ck ws st).map fun s => { s with t := t' }
  | [], _, _ => rfl
  | (q, vs) :: l, st, t' => by
    simp only [writes]
    split
    · split
      · exact writes_t (st := { st with h := _, lw := _, lp := _ })
      · rfl
    · rfl
theorem writesM_inv (h : writesM ro ck ws m = some m1) : writes ro ck ws (m.st t) = some (m1.st t) := by
  unfold writesM at h
  split at h
  · rename_i s e
    cases h
    have := writes_t (ro := ro) (ck := ck) (ws := ws) (st := m.st .e) (t' := t)
    rw [e] at this
    exact this
  · cases h
end

section
variable {call : Caller} {ro : List ABlk} {t : Tr} {b : Bs} {x y : AOpd} {v vx vy : AVal} {m m1 : Mm} {Q : St → Prop}
/- lists of operations with loads that float -/
def WF (call : Caller) (ro : List ABlk) (h0 : Heap) (af : Bool) (l : List (AOp × Bool)) (st : St) (Q : St → Prop) : Prop := ∃ st', runFlt call ro h0 af l st = some st' ∧ Q st'

variable {lf : List (AOp × Bool)} {h0 : Heap} {af fl : Bool}
theorem wf_nil {st : St} (h : Q st) : WF call ro h0 af [] st Q := ⟨st, rfl, h⟩
theorem wf_step {d : Nat} {k : Kind} (h : fstep call ro h0 af fl (m.st (sets b t)) k = some (v, m1.st (sets b t))) (hn : WF call ro h0 af lf (m1.st (sets ((d, v) :: b) t)) Q) : WF call ro h0 af ((⟨some d, none, k⟩, fl) :: lf) (m.st (sets b t)) Q := by
  obtain ⟨st', h1, h2⟩ := hn
  refine ⟨st', ?_, h2⟩
  simp only [runFlt, wantedA, if_true, h]
  exact h1
theorem wf_stepN {k : Kind} (h : fstep call ro h0 af fl (m.st (sets b t)) k = some (v, m1.st (sets b t))) (hn : WF call ro h0 af lf (m1.st (sets b t)) Q) : WF call ro h0 af ((⟨none, none, k⟩, fl) :: lf) (m.st (sets b t)) Q := by
  obtain ⟨st', h1, h2⟩ := hn
  refine ⟨st', ?_, h2⟩
  simp only [runFlt, wantedA, if_true, h]
  exact h1
theorem wf_take {d s : Nat} {w : Bool} {k : Kind} (hg : alk t b (.t s) = .b w) (h : fstep call ro h0 af fl (m.st (sets b t)) k = some (v, m1.st (sets b t))) (hn : WF call ro h0 af lf (m1.st (sets ((d, v) :: b) t)) Q) :
    WF call ro h0 af ((⟨some d, some (s, w), k⟩, fl) :: lf) (m.st (sets b t)) Q := by
  obtain ⟨st', h1, h2⟩ := hn
  refine ⟨st', ?_, h2⟩
  have hw : wantedA (some (s, w)) (m.st (sets b t)).t = true := by simp [wantedA, gl hg]
  simp only [runFlt, hw, if_true, h]
  exact h1
theorem wf_takeN {s : Nat} {w : Bool} {k : Kind} (hg : alk t b (.t s) = .b w) (h : fstep call ro h0 af fl (m.st (sets b t)) k = some (v, m1.st (sets b t))) (hn : WF call ro h0 af lf (m1.st (sets b t)) Q) :
    WF call ro h0 af ((⟨none, some (s, w), k⟩, fl) :: lf) (m.st (sets b t)) Q := by
  obtain ⟨st', h1, h2⟩ := hn
  refine ⟨st', ?_, h2⟩
  have hw : wantedA (some (s, w)) (m.st (sets b t)).t = true := by simp [wantedA, gl hg]
  simp only [runFlt, hw, if_true, h]
  exact h1
theorem wf_skip {d s : Nat} {w : Bool} {k : Kind} (hg : alk t b (.t s) = v) (ho : offG v w = true) (hn : WF call ro h0 af lf (m.st (sets ((d, und) :: b) t)) Q) : WF call ro h0 af ((⟨some d, some (s, w), k⟩, fl) :: lf) (m.st (sets b t)) Q := by
  obtain ⟨st', h1, h2⟩ := hn
  refine ⟨st', ?_, h2⟩
  have hw : wantedA (some (s, w)) (m.st (sets b t)).t = false := by
    simp only [wantedA, gl hg]
    unfold offG at ho
    split at ho <;> simp_all
  simp only [runFlt, hw]
  exact h1
theorem wf_skipN {s : Nat} {w : Bool} {k : Kind} (hg : alk t b (.t s) = v) (ho : offG v w = true) (hn : WF call ro h0 af lf (m.st (sets b t)) Q) : WF call ro h0 af ((⟨none, some (s, w), k⟩, fl) :: lf) (m.st (sets b t)) Q := by
  obtain ⟨st', h1, h2⟩ := hn
  refine ⟨st', ?_, h2⟩
  have hw : wantedA (some (s, w)) (m.st (sets b t)).t = false := by
    simp only [wantedA, gl hg]
    unfold offG at ho
    split at ho <;> simp_all
  simp only [runFlt, hw]
  exact h1
theorem runFlt_append {l' : List (AOp × Bool)} : ∀ {l : List (AOp × Bool)} {st : St}, runFlt call ro h0 af (l ++ l') st = (runFlt call ro h0 af l st).bind (runFlt call ro h0 af l')
  | [], _ => rfl
  | (o, f) :: l, st => by
    simp only [List.cons_append, runFlt]
    split
    · split
      · exact runFlt_append
      · rfl
    · exact runFlt_append
theorem wf_join {st : St} (k : Nat) (J : Mm → Tr → Prop) (h : WF call ro h0 af (lf.take k) st (fun st => ∃ m1 t1, st = m1.st t1 ∧ J m1 t1)) (hn : ∀ m1 t1, J m1 t1 → WF call ro h0 af (lf.drop k) (m1.st (sets [] t1)) Q) : WF call ro h0 af lf st Q := by
  obtain ⟨st', h1, m1, t1, rfl, hj⟩ := h
  obtain ⟨st2, h2, h3⟩ := hn m1 t1 hj
  refine ⟨st2, ?_, h3⟩
  conv => lhs; rw [← List.take_append_drop k lf]
  rw [runFlt_append, h1]
  exact h2


theorem f_P {st : St} {k : Kind} {r : AVal × St} (hk : memK k = false) (h : stepC call ro st k = some r) : fstep call ro h0 af false st k = some r := by
  unfold fstep
  simp only [Bool.false_and, cond_false, h, hk, Bool.and_false]
theorem f_M {k : Kind} (hb : (!Nat.blt m1.lw h0.length) = true) (h : stepC call ro (m.st (sets b t)) k = some (v, m1.st (sets b t))) : fstep call ro h0 af false (m.st (sets b t)) k = some (v, m1.st (sets b t)) := by
  unfold fstep
  have hb' : Nat.blt m1.lw h0.length = false := by simpa using hb
  simp only [Bool.false_and, cond_false, h, hb', Bool.and_false]
theorem f_N {st : St} {k : Kind} {r : AVal × St} (h : stepC call ro st k = some r) : fstep call ro h0 false false st k = some r := by
  unfold fstep
  simp only [cond_false, h, Bool.false_and]
/-- one that all floating loads come before -/
theorem f_F {st : St} {k : Kind} {r : AVal × St} (hk : isLd k = false) (h : stepC call ro st k = some r) : fstep call ro h0 af true st k = some r := by
  unfold fstep
  simp only [hk, Bool.and_false, cond_false, h, Bool.not_true, Bool.false_and]
theorem f_ld {one : Bool} {n : Nat} (hx : alk t b x = vx) (h : ldA ro h0 one n vx = some v) : fstep call ro h0 af true (m.st (sets b t)) (.ld one n x) = some (v, m.st (sets b t)) := by
  unfold ldA at h
  unfold fstep
  split at h
  · rename_i q
    cases e : (q.ro || Nat.blt q.b h0.length)
    · rw [e] at h; cases h
    · rw [e] at h
      simp only [cond_true] at h
      simp only [isLd, Bool.and_self, cond_true, ldO, opd_sets, hx, e, h]
  · cases h
/-- a region of this kind begins; ends -/
def Mm.base (m : Mm) : Mm := ⟨m.h, m.h.length, m.h.length⟩
def Mm.join (m0 m1 : Mm) : Mm := ⟨m1.h, min m0.lw m1.lw, min m0.lp m1.lp⟩
theorem wf_end {Q : AExit → St → Prop} {m m1 m2 : Mm} (e : some (Mm.join m m1) = some m2) (h : Q .norm (m2.st (sets b t))) : WF call ro h0 af [] (m1.st (sets b t)) (fun s => Q .norm ((Mm.join m s.mm).st s.t)) := by
  cases e
  exact ⟨_, rfl, h⟩

end

/- code -/
def W (F : Tab) (ro : List ABlk) (c : ACode) (st : St) (Q : AExit → St → Prop) : Prop := ∃ e st', X F ro c st = some (e, st') ∧ Q e st'

def blk (id : Nat) : AExit → AExit
  | .exit i => if i = id then .norm else .exit i
  | e => e

section
variable {F : Tab} {ro : List ABlk} {m : Mm} {t : Tr} {b : Bs} {st : St} {Q : AExit → St → Prop}
theorem w_mono {c : ACode} {Q' : AExit → St → Prop} (h : W F ro c st Q') (hq : ∀ e st, Q' e st → Q e st) : W F ro c st Q := by
  obtain ⟨e, s, h1, h2⟩ := h
  exact ⟨e, s, h1, hq _ _ h2⟩
theorem w_skip (h : Q .norm st) : W F ro .skip st Q := ⟨_, _, X_skip, h⟩
theorem w_exit {id : Nat} (h : Q (.exit id) st) : W F ro (.exit id) st Q := ⟨_, _, X_exit, h⟩
theorem w_ret (h : Q .ret st) : W F ro .ret st Q := ⟨_, _, X_ret, h⟩
theorem w_ops {l : List AOp} (h : WO (callX F ro) ro l st (fun s => Q .norm s)) : W F ro (.ops l) st Q := by
  obtain ⟨s, h1, h2⟩ := h
  exact ⟨_, _, X_ops h1, h2⟩
theorem w_any {l : List (AOp × Bool)} (h : WA (callX F ro) ro m.h l ⟨sets b t, m.h, [], []⟩ (fun s => ∃ m1, writesM ro s.ck s.ws.reverse ⟨s.h, m.lw, m.lp⟩ = some m1 ∧ Q .norm (m1.st s.t))) : W F ro (.any l) (m.st (sets b t)) Q := by
  obtain ⟨s, h1, m1, h2, h3⟩ := h
  refine ⟨_, _, X_any ?_, h3⟩
  unfold execAny
  rw [h1]
  exact writesM_inv h2
theorem w_flt {l : List (AOp × Bool)} {af : Bool} {mb : Mm} (ha : (l.any fun o => o.2) = af) (hb : some (Mm.base m) = some mb) (h : WF (callX F ro) ro m.h af l (mb.st (sets b t)) (fun s => Q .norm ((Mm.join m s.mm).st s.t))) : W F ro (.flt l) (m.st (sets b t)) Q := by
  subst ha
  cases hb
  obtain ⟨s, h1, h2⟩ := h
  refine ⟨_, _, X_flt ?_, h2⟩
  unfold execFlt
  have h1' : runFlt (callX F ro) ro (m.st (sets b t)).h (l.any fun o => o.2) l { (m.st (sets b t)) with lw := (m.st (sets b t)).h.length, lp := (m.st (sets b t)).h.length } = some s := h1
  rw [h1']
  rfl
theorem w_opsY {l : List AOp} (h : WOY (callX F ro) (roundX F ro) ro l st (fun s => Q .norm s)) : W F ro (.opsY l) st Q := by
  obtain ⟨s, h1, h2⟩ := h
  exact ⟨_, _, X_opsY h1, h2⟩
/-- a loop over a function, from a state whose slots are t -/
def rngT (call : Caller) (ps : List Nat) (asg body : ACode) (t : Tr) (v : AVal) (m : Mm) : Option (AExit × Mm) :=
  match rngA call ps asg body (m.st t) v with
  | some (e, s) => some (e, s.mm)
  | none => none
open Classical in
/-- what it answers, if that is the same for all slots of which P is known -/
noncomputable def rngP (call : Caller) (P : Tr → Prop) (ps : List Nat) (asg body : ACode) (v : AVal) (m : Mm) : Option (AExit × Mm) :=
  if h : ∃ r, ∀ t, P t → rngT call ps asg body t v m = some r then some h.choose else none
theorem rngP_inv {call : Caller} {P : Tr → Prop} {ps : List Nat} {asg body : ACode} {v : AVal} {r : AExit × Mm} (h : rngP call P ps asg body v m = some r) (ht : P t) : rngT call ps asg body t v m = some r := by
  unfold rngP at h
  split at h
  · rename_i hh
    cases h
    exact hh.choose_spec t ht
  · cases h
theorem rngP_eq {call : Caller} {P : Tr → Prop} {ps : List Nat} {asg body : ACode} {v : AVal} {r : AExit × Mm} (ht : P t) (h : ∀ t, P t → rngT call ps asg body t v m = some r) : rngP call P ps asg body v m = some r := by
  have hh : ∃ r, ∀ t, P t → rngT call ps asg body t v m = some r := ⟨r, h⟩
  unfold rngP
  rw [dif_pos hh]
  have := hh.choose_spec t ht
  rw [h t ht] at this
  exact this.symm
theorem rngP_le {c c' : Caller} (hc : CLe c c') {P : Tr → Prop} {ps : List Nat} {asg body : ACode} {v : AVal} {r : AExit × Mm} (ht : P t) (h : rngP c P ps asg body v m = some r) : rngT c' ps asg body t v m = some r := by
  have h1 := rngP_inv h ht
  unfold rngT at h1 ⊢
  split at h1
  · rename_i e; rw [rngA_mono hc e]; exact h1
  · cases h1
theorem rngA_t {call : Caller} {ps : List Nat} {asg body : ACode} {v : AVal} {e : AExit} {s : St} (h : rngA call ps asg body st v = some (e, s)) : s.t = st.t := by
  unfold rngA at h
  split at h
  · split at h
    · split at h
      · cases h; rfl
      · cases h
    · cases h
  · cases h
theorem w_rng {call : Caller} (hc : CLe call (callX F ro)) {x : AOpd} {ps : List Nat} {asg body : ACode} {P : Tr → Prop} {v : AVal} {e : AExit} {m1 : Mm} (hx : alk t b x = v) (hr : rngP call P ps asg body v m = some (e, m1)) (hP : P (sets b t)) (h : Q e (m1.st (sets b t))) :
    W F ro (.rng x ps asg body) (m.st (sets b t)) Q := by
  have h1 := rngP_le hc hP hr
  unfold rngT at h1
  split at h1
  · rename_i e' s hs
    cases h1
    have ht := rngA_t hs
    refine ⟨e, s, X_rng (by rw [opd_sets, hx]; exact hs), ?_⟩
    have : s = s.mm.st (sets b t) := by
      obtain ⟨a1, a2, a3, a4⟩ := s
      have ht' : a1 = sets b t := ht
      subst ht'
      rfl
    rw [this]; exact h
  · cases h1
/- a round -/
/-- the end of a round -/
def rndE (L b : Nat) (e : AExit) (m : Mm) : Option (AVal × Heap × Nat × Nat) :=
  match setL m.h b e.after e.pend with
  | some h2 => some (gc L (.b e.on) ⟨.e, h2, min m.lw b, m.lp⟩)
  | none => none
def QR (L b : Nat) (r : AVal × Heap × Nat × Nat) (e : AExit) (st : St) : Prop := rndE L b e st.mm = some r
/-- a round's body begins -/
def rndB (b : Nat) (m : Mm) : Option Mm :=
  match begL m.h b with
  | some h1 => some ⟨h1, min m.lw b, m.lp⟩
  | none => none
def QB (F : Tab) (ro : List ABlk) (body : ACode) (L b : Nat) (r : AVal × Heap × Nat × Nat) (e : AExit) (st : St) : Prop :=
  e = .norm ∧ ∃ m1, rndB b st.mm = some m1 ∧ W F ro body (m1.st st.t) (QR L b r)
theorem roundX_of {b : Nat} {vs : List AVal} {h : Heap} {r : AVal × Heap × Nat × Nat} {bk : ABlk} {L : LRec} {p : Option AExit} (hb : lget h b = some (some bk)) (hg : bk.g = some (.lp L .ready p)) (hl : Nat.beq vs.length L.ps.length = true)
    (hw : W F ro L.asg ((⟨h, h.length, h.length⟩ : Mm).st (putPs L.t L.ps vs)) (QB F ro L.body h.length b r)) : roundX F ro b vs h = some r := by
  obtain ⟨e, s, h1, rfl, m1, h2, e2, s2, h3, h4⟩ := hw
  unfold rndB at h2
  split at h2
  · rename_i hh hbeg
    cases h2
    unfold QR rndE at h4
    split at h4
    · rename_i h5 hset
      cases h4
      unfold roundX roundA
      simp only [hb, hg, hl, cond_true]
      unfold roundB
      have h1' : X F ro L.asg { t := putPs L.t L.ps vs, h, lw := h.length, lp := h.length } = some (.norm, s) := h1
      rw [h1']
      have hbeg' : begL s.h b = some hh := hbeg
      simp only [hbeg']
      have h3' : X F ro L.body { s with h := hh, lw := min s.lw b } = some (e2, s2) := h3
      rw [h3']
      have hset' : setL s2.h b e2.after e2.pend = some h5 := hset
      simp only [hset']
      unfold gc
      rfl
    · cases h4
  · cases h2
theorem roundX_on {b : Nat} {vs : List AVal} {h : Heap} {r : AVal × Heap × Nat × Nat} {bk : ABlk} {L : LRec} {p : Option AExit} {g : Mm → Option (AVal × Heap × Nat × Nat)} (hb : lget h b = some (some bk)) (hg : bk.g = some (.lp L .ready p)) (hl : Nat.beq vs.length L.ps.length = true)
    (hr : g ⟨h, h.length, h.length⟩ = some r) (hw : ∀ (m0 : Mm) (t0 : Tr), (∀ j, t0.get j = (putPs L.t L.ps vs).get j) → g m0 = some r → W F ro L.asg (m0.st (sets [] t0)) (QB F ro L.body m0.h.length b r)) : roundX F ro b vs h = some r :=
  roundX_of hb hg hl (hw ⟨h, h.length, h.length⟩ _ (fun _ => rfl) hr)
theorem qb {body : ACode} {L bb : Nat} {r : AVal × Heap × Nat × Nat} {m1 : Mm} (h : rndB bb m = some m1) (hw : W F ro body (m1.st (sets b t)) (QR L bb r)) : QB F ro body L bb r .norm (m.st (sets b t)) := ⟨rfl, m1, h, hw⟩
/-- by the way in which a loop over a function was left -/
def onE {β : Type} (e : AExit) (a r : Option β) (x : Nat → Option β) : Option β :=
  match e with
  | .norm => a
  | .ret => r
  | .exit i => x i
theorem onE_inv {β : Type} {e : AExit} {a r : Option β} {x : Nat → Option β} {q : β} (h : onE e a r x = some q) : (e = .norm ∧ a = some q) ∨ (e = .ret ∧ r = some q) ∨ ∃ i, e = .exit i ∧ x i = some q := by
  cases e with
  | norm => exact .inl ⟨rfl, h⟩
  | ret => exact .inr (.inl ⟨rfl, h⟩)
  | exit i => exact .inr (.inr ⟨i, rfl, h⟩)
def nxt (F : Tab) (ro : List ABlk) (b : ACode) (Q : AExit → St → Prop) : AExit → St → Prop
  | .norm, s => W F ro b s Q
  | .exit i, s => Q (.exit i) s
  | .ret, s => Q .ret s
theorem w_seq {a c : ACode} (h : W F ro a st (nxt F ro c Q)) : W F ro (.seq a c) st Q := by
  obtain ⟨e, s, h1, h2⟩ := h
  cases e with
  | norm =>
    obtain ⟨e, s', h3, h4⟩ := h2
    exact ⟨e, s', X_seq h1 h3, h4⟩
  | exit i => exact ⟨_, _, X_seq_out h1 (by intro h; cases h), h2⟩
  | ret => exact ⟨_, _, X_seq_out h1 (by intro h; cases h), h2⟩
theorem w_condT {x : AOpd} {a c : ACode} (hx : alk t b x = .b true) (h : W F ro a (m.st (sets b t)) Q) : W F ro (.cond x a c) (m.st (sets b t)) Q := by
  obtain ⟨e, s, h1, h2⟩ := h
  exact ⟨_, _, X_cond_true ((opd_sets b t x).trans hx) h1, h2⟩
theorem w_condF {x : AOpd} {a c : ACode} (hx : alk t b x = .b false) (h : W F ro c (m.st (sets b t)) Q) : W F ro (.cond x a c) (m.st (sets b t)) Q := by
  obtain ⟨e, s, h1, h2⟩ := h
  exact ⟨_, _, X_cond_false ((opd_sets b t x).trans hx) h1, h2⟩
def bq (id : Nat) (Q : AExit → St → Prop) : AExit → St → Prop := fun e s => Q (blk id e) s
theorem w_block {id : Nat} {a : ACode} (h : W F ro a st (bq id Q)) : W F ro (.block id a) st Q := by
  obtain ⟨e, s, h1, h2⟩ := h
  exact ⟨_, _, X_block h1 (by cases e <;> rfl), h2⟩
abbrev JP (J : AExit → Mm → Tr → Prop) : AExit → St → Prop := fun e st => ∃ m1 t1, st = m1.st t1 ∧ J e m1 t1
abbrev LP {S R : Type} (I : S → Mm → Tr → Prop) (J : R → AExit → Mm → Tr → Prop) (o : S ⊕ R) : AExit → St → Prop :=
  match o with
  | .inl s => fun e st => ∃ m1 t1, st = m1.st t1 ∧ e = .norm ∧ I s m1 t1
  | .inr q => fun e st => ∃ m1 t1, st = m1.st t1 ∧ e ≠ .norm ∧ J q e m1 t1
theorem jp_mono {c : ACode} {J : AExit → Mm → Tr → Prop} (h : W F ro c st (JP J)) (hq : ∀ e m1 t1, J e m1 t1 → Q e (m1.st (sets [] t1))) : W F ro c st Q := by
  obtain ⟨e, s, h1, m1, t1, rfl, h2⟩ := h
  exact ⟨e, _, h1, hq _ _ _ h2⟩
theorem w_loop {S R : Type} {body : ACode} (b0 : S → Option (S ⊕ R)) (I : S → Mm → Tr → Prop) (J : R → AExit → Mm → Tr → Prop)
    (hb : ∀ s m t o, I s m t → b0 s = some o → W F ro body (m.st (sets [] t)) (LP I J o)) :
    ∀ (n : Nat) (s : S) (m : Mm) (t : Tr) (q : R), iter b0 n s = some q → I s m t → W F ro (.loop body) (m.st t) (JP (J q))
  | 0, s, m, t, q, h, _ => by cases h
  | n + 1, s, m, t, q, h, hi => by
    unfold iter at h
    split at h
    · rename_i s' e
      obtain ⟨e, st', h1, m1, t1, rfl, rfl, h2⟩ := hb s m t _ hi e
      obtain ⟨e, st2, h3, h4⟩ := w_loop b0 I J hb n s' m1 t1 q h h2
      exact ⟨e, st2, X_loop_on h1 h3, h4⟩
    · rename_i r e
      cases h
      obtain ⟨e, st', h1, m1, t1, rfl, hn, h2⟩ := hb s m t _ hi e
      exact ⟨e, _, X_loop_out h1 hn, m1, t1, rfl, h2⟩
    · cases h
theorem nx_norm {c : ACode} (h : W F ro c st Q) : nxt F ro c Q .norm st := h
theorem nx_exit {c : ACode} {i : Nat} (h : Q (.exit i) st) : nxt F ro c Q (.exit i) st := h
theorem nx_ret {c : ACode} (h : Q .ret st) : nxt F ro c Q .ret st := h
theorem bk_norm {id : Nat} (h : Q .norm st) : bq id Q .norm st := h
theorem bk_ret {id : Nat} (h : Q .ret st) : bq id Q .ret st := h
theorem bk_hit {id : Nat} (h : Q .norm st) : bq id Q (.exit id) st := by simpa [bq, blk] using h
theorem bk_miss {id i : Nat} (hn : i ≠ id) (h : Q (.exit i) st) : bq id Q (.exit i) st := by simpa [bq, blk, hn] using h

/- functions -/
def finM (L : Nat) (v : AVal) (m : Mm) : Option (AVal × Heap × Nat × Nat) := some (gc L v (m.st .e))
def QF (ro : List ABlk) (res : List ARes) (L : Nat) (r : AVal × Heap × Nat × Nat) (e : AExit) (st : St) : Prop :=
  (∀ i, e ≠ .exit i) ∧ ∃ vs, resAs ro st res = some vs ∧ gc L (tupA vs) st = r
theorem callX_of {f : Nat} {fn : AFn} {args : List AVal} {h : Heap} {r : AVal × Heap × Nat × Nat} {g : Mm → Option (AVal × Heap × Nat × Nat)} (ho : F.ov f args h = none) (hf : F.fn f = some fn) (hl : Nat.ble args.length fn.nt = true)
    (hr : g ⟨h, h.length, h.length⟩ = some r)
    (hw : ∀ (m0 : Mm) (t0 : Tr), (∀ j, t0.get j = args.getD j und) → g m0 = some r → W F ro fn.body (m0.st (sets [] t0)) (QF ro fn.res m0.h.length r)) : callX F ro f args h = some r := by
  obtain ⟨e, s, h1, h2, vs, h3, h4⟩ := hw ⟨h, h.length, h.length⟩ (Tr.mk args) (get_mk args) hr
  unfold callX callA
  rw [ho, hf]
  simp only [hl]
  simp only [Bool.not_true]
  have h1' : X F ro fn.body { t := Tr.mk args, h := h, lw := h.length, lp := h.length } = some (e, s) := h1
  rw [h1']
  cases e with
  | norm => simp only [h3, h4]; rfl
  | exit i => exact absurd rfl (h2 i)
  | ret => simp only [h3, h4]; rfl
theorem qf {res : List ARes} {L : Nat} {r : AVal × Heap × Nat × Nat} {e : AExit} {vs : List AVal} (he : ∀ i, e ≠ .exit i) (hr : resAs ro (m.st (sets b t)) res = some vs) (hv : finM L (tupA vs) m = some r) : QF ro res L r e (m.st (sets b t)) :=
  ⟨he, vs, hr, by
    unfold finM at hv
    cases hv
    simp only [gc]⟩
theorem rn : resAs ro st [] = some [] := rfl
theorem rt {n : Nat} {l : List ARes} {v : AVal} {vs : List AVal} (h : alk t b (.t n) = v) (hl : resAs ro (m.st (sets b t)) l = some vs) : resAs ro (m.st (sets b t)) (.t n :: l) = some (v :: vs) := by
  simp only [resAs, resA, gl h, hl]
theorem rc {s n : Nat} {one : Bool} {l : List ARes} {v vx : AVal} {vs : List AVal} (h : alk t b (.t s) = vx) (hv : ldM ro m one n vx = some v) (hl : resAs ro (m.st (sets b t)) l = some vs) : resAs ro (m.st (sets b t)) (.c s one n :: l) = some (v :: vs) := by
  unfold ldM at hv
  split at hv
  · simp only [resAs, resA, gl h, hl, hv]
  · cases hv
theorem ne_norm_exit {i : Nat} : AExit.exit i ≠ .norm := by intro h; cases h
theorem ne_norm_ret : AExit.ret ≠ .norm := by intro h; cases h
theorem ret_ok : ∀ i, AExit.ret ≠ .exit i := by intro i h; cases h
theorem norm_ok : ∀ i, AExit.norm ≠ .exit i := by intro i h; cases h
end

theorem ci {k : IntKind} {a b : Int} (h : a = b) : some (AVal.i k a) = some (AVal.i k b) := by rw [h]
theorem cb {a b : Bool} (h : a = b) : some (AVal.b a) = some (AVal.b b) := by rw [h]
theorem pk_i {c : Bool} {k : IntKind} {a b x : Int} (h : cond c a b = x) : cond c (AVal.i k a) (AVal.i k b) = AVal.i k x := by subst h; cases c <;> rfl
theorem pk_b {c : Bool} {a b x : Bool} (h : cond c a b = x) : cond c (AVal.b a) (AVal.b b) = AVal.b x := by subst h; cases c <;> rfl
theorem callM_le {c c' : Caller} (hc : CLe c c') {m : Mm} {f : Nat} {vs : List AVal} {r : AVal × Mm} (h : callM c m f vs = some r) : callM c' m f vs = some r := by
  unfold callM at h ⊢
  split at h
  · rename_i e; rw [hc _ _ _ _ e]; exact h
  · cases h
theorem callvM_le {c c' : Caller} (hc : CLe c c') {m : Mm} {x : AVal} {vs : List AVal} {r : AVal × Mm} (h : callvM c m x vs = some r) : callvM c' m x vs = some r := by
  unfold callvM at h ⊢
  split at h
  · exact callM_le hc h
  · cases h
theorem calliM_le {c c' : Caller} (hc : CLe c c') {m : Mm} {tab : List MRow} {x : AVal} {vs : List AVal} {r : AVal × Mm} (h : calliM c m tab x vs = some r) : calliM c' m tab x vs = some r := by
  unfold calliM at h ⊢
  split at h
  · exact callM_le hc h
  · cases h
theorem callN_le {c c' : Caller} (hc : CLe c c') {h0 : Heap} {f : Nat} {vs : List AVal} {v : AVal} (h : callN c h0 f vs = some v) : callN c' h0 f vs = some v := by
  unfold callN at h ⊢
  cases e : bels h0.length vs
  · rw [e] at h; cases h
  · rw [e] at h
    simp only [cond_true] at h ⊢
    split at h
    · rename_i e2; rw [hc _ _ _ _ e2]; exact h
    · cases h
def JA (J : Mm → Tr → Prop) (m : Mm) (h : Heap) (ws : List (Loc × List AVal)) (ck : List ((Loc × List AVal) × AVal)) (s : AnyS) : Prop := s = ⟨s.t, h, ws, ck⟩ ∧ J m s.t
theorem ja_in {J : Mm → Tr → Prop} {m : Mm} {h : Heap} {ws : List (Loc × List AVal)} {ck : List ((Loc × List AVal) × AVal)} {t : Tr} (hj : J m t) : JA J m h ws ck ⟨t, h, ws, ck⟩ := ⟨rfl, hj⟩
theorem ja_out {call : Caller} {ro : List ABlk} {h0 : Heap} {la : List (AOp × Bool)} {QA : AnyS → Prop} {J : Mm → Tr → Prop} {m : Mm} {h : Heap} {ws : List (Loc × List AVal)} {ck : List ((Loc × List AVal) × AVal)}
    (hj : ∀ t, J m t → WA call ro h0 la ⟨sets [] t, h, ws, ck⟩ QA) (s : AnyS) (hs : JA J m h ws ck s) : WA call ro h0 la s QA := by
  rw [hs.1]
  exact hj _ hs.2

end Go.Vm

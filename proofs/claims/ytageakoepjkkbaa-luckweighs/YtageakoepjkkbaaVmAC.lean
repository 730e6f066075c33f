/- What the small machine answers, without fuel: X and callX, their equations. -/
import Derived.Test.YtageakoepjkkbaaVmA
namespace Go.Vm

/-- one caller answers whatever the other one answers -/
def CLe (c c' : Caller) : Prop := ∀ f a h r, c f a h = some r → c' f a h = some r

theorem stepC_mono {c c' : Caller} (hc : CLe c c') {ro : List ABlk} {st : St} {k : Kind} {r : AVal × St} (h : stepC c ro st k = some r) : stepC c' ro st k = some r := by
  unfold stepC at h ⊢
  split at h
  · split at h
    · rename_i hx
      rw [hc _ _ _ _ hx]; exact h
    · cases h
  · split at h
    · split at h
      · rename_i hx
        rw [hc _ _ _ _ hx]; exact h
      · cases h
    · cases h
  · split at h
    · split at h
      · rename_i hx
        rw [hc _ _ _ _ hx]; exact h
      · cases h
    · cases h
  · exact h

theorem runOps_mono {c c' : Caller} (hc : CLe c c') {ro : List ABlk} : ∀ {l : List AOp} {st r : St}, runOps c ro l st = some r → runOps c' ro l st = some r
  | [], _, _, h => h
  | o :: l, st, r, h => by
    unfold runOps at h ⊢
    split at h
    · rename_i hw
      rw [if_pos hw]
      split at h
      · rename_i hx
        rw [stepC_mono hc hx]; exact runOps_mono hc h
      · cases h
    · rename_i hw
      rw [if_neg hw]; exact runOps_mono hc h

theorem anyK_mono {c c' : Caller} (hc : CLe c c') {ro : List ABlk} {h0 : Heap} {s : AnyS} {k : Kind} {fl : Bool} {r : AVal × AnyS} (h : anyK c ro h0 s k fl = some r) : anyK c' ro h0 s k fl = some r := by
  unfold anyK at h ⊢
  split at h <;> try exact h
  · split at h
    · rename_i hb
      rw [if_pos hb]
      split at h
      · rename_i hx
        rw [hc _ _ _ _ hx]; exact h
      · cases h
    · cases h
  · split at h
    · rename_i hb
      split at h
      · rename_i hb
        rw [if_pos hb]
        split at h
        · rename_i hx
          rw [hc _ _ _ _ hx]; exact h
        · cases h
      · cases h
    · cases h

theorem runAny_mono {c c' : Caller} (hc : CLe c c') {ro : List ABlk} {h0 : Heap} : ∀ {l : List (AOp × Bool)} {s r : AnyS}, runAny c ro h0 l s = some r → runAny c' ro h0 l s = some r
  | [], _, _, h => h
  | (o, fl) :: l, st, r, h => by
    unfold runAny at h ⊢
    split at h
    · rename_i hw
      rw [if_pos hw]
      split at h
      · rename_i hx
        rw [anyK_mono hc hx]; exact runAny_mono hc h
      · cases h
    · rename_i hw
      rw [if_neg hw]; exact runAny_mono hc h

theorem execAny_mono {c c' : Caller} (hc : CLe c c') {ro : List ABlk} {l : List (AOp × Bool)} {st r : St} (h : execAny c ro l st = some r) : execAny c' ro l st = some r := by
  unfold execAny at h ⊢
  split at h
  · rename_i hx
    rw [runAny_mono hc hx]; exact h
  · cases h

theorem fstep_mono {c c' : Caller} (hc : CLe c c') {ro : List ABlk} {h0 : Heap} {af fl : Bool} {st : St} {k : Kind} {r : AVal × St} (h : fstep c ro h0 af fl st k = some r) : fstep c' ro h0 af fl st k = some r := by
  unfold fstep at h ⊢
  cases hf : (fl && isLd k) with
  | true => rw [hf] at h; exact h
  | false =>
    rw [hf] at h
    simp only [cond_false] at h ⊢
    split at h
    · rename_i hx
      rw [stepC_mono hc hx]; exact h
    · cases h

theorem runFlt_mono {c c' : Caller} (hc : CLe c c') {ro : List ABlk} {h0 : Heap} {af : Bool} : ∀ {l : List (AOp × Bool)} {st r : St}, runFlt c ro h0 af l st = some r → runFlt c' ro h0 af l st = some r
  | [], _, _, h => h
  | (o, fl) :: l, st, r, h => by
    unfold runFlt at h ⊢
    split at h
    · rename_i hw
      rw [if_pos hw]
      split at h
      · rename_i hx
        rw [fstep_mono hc hx]; exact runFlt_mono hc h
      · cases h
    · rename_i hw
      rw [if_neg hw]; exact runFlt_mono hc h

theorem execFlt_mono {c c' : Caller} (hc : CLe c c') {ro : List ABlk} {l : List (AOp × Bool)} {st r : St} (h : execFlt c ro l st = some r) : execFlt c' ro l st = some r := by
  unfold execFlt at h ⊢
  split at h
  · rename_i hx
    rw [runFlt_mono hc hx]; exact h
  · cases h

abbrev Ex := ACode → St → Option (AExit × St)
def XLe (x x' : Ex) : Prop := ∀ c st r, x c st = some r → x' c st = some r

theorem callA_mono {F : Tab} {ro : List ABlk} {x x' : Ex} (hx : XLe x x') : CLe (callA F ro x) (callA F ro x') := by
  intro f a h r hr
  unfold callA at hr ⊢
  split at hr
  · exact hr
  split at hr
  · cases hr
  · rename_i fn hf
    split at hr
    · cases hr
    · rename_i hl
      rw [if_neg hl]
      split at hr
      · cases hr
      · rename_i e st hne hex
        rw [hx _ _ _ hex]
        simpa using hr
      · cases hr

def RLe (r r' : Rounds) : Prop := ∀ b vs h x, r b vs h = some x → r' b vs h = some x

theorem stepY_mono {c c' : Caller} (hc : CLe c c') {u u' : Rounds} (hu : RLe u u') {ro : List ABlk} {st : St} {k : Kind} {r : AVal × St} (h : stepY c u ro st k = some r) : stepY c' u' ro st k = some r := by
  unfold stepY at h ⊢
  split at h
  · split at h
    · split at h
      · rename_i hx
        rw [hu _ _ _ _ hx]; exact h
      · cases h
    · exact stepC_mono hc h
  · exact stepC_mono hc h

theorem runOpsY_mono {c c' : Caller} (hc : CLe c c') {u u' : Rounds} (hu : RLe u u') {ro : List ABlk} : ∀ {l : List AOp} {st r : St}, runOpsY c u ro l st = some r → runOpsY c' u' ro l st = some r
  | [], _, _, h => h
  | o :: l, st, r, h => by
    unfold runOpsY at h ⊢
    split at h
    · rename_i hw
      rw [if_pos hw]
      split at h
      · rename_i hx
        rw [stepY_mono hc hu hx]; exact runOpsY_mono hc hu h
      · cases h
    · rename_i hw
      rw [if_neg hw]; exact runOpsY_mono hc hu h

theorem roundB_mono {x x' : Ex} (hx : XLe x x') {L : LRec} {b : Nat} {vs : List AVal} {h : Heap} {r : AVal × Heap × Nat × Nat} (hr : roundB x L b vs h = some r) : roundB x' L b vs h = some r := by
  unfold roundB at hr ⊢
  split at hr
  · rename_i s1 h1
    rw [hx _ _ _ h1]
    cases h2 : begL s1.h b with
    | none => simp only [h2] at hr; cases hr
    | some h1' =>
      simp only [h2] at hr ⊢
      split at hr
      · rename_i h3
        rw [hx _ _ _ h3]; exact hr
      · cases hr
  · cases hr

theorem roundA_mono {x x' : Ex} (hx : XLe x x') : RLe (roundA x) (roundA x') := by
  intro b vs h r hr
  unfold roundA at hr ⊢
  split at hr
  · split at hr
    · cases hb : Nat.beq vs.length _ <;> rw [hb] at hr
      · cases hr
      · exact roundB_mono hx hr
    · cases hr
  · cases hr

theorem rngA_mono {c c' : Caller} (hc : CLe c c') {ps : List Nat} {asg body : ACode} {st : St} {v : AVal} {r : AExit × St} (h : rngA c ps asg body st v = some r) : rngA c' ps asg body st v = some r := by
  unfold rngA at h ⊢
  split at h
  · split at h
    · rename_i hx
      rw [hc _ _ _ _ hx]; exact h
    · cases h
  · cases h

/-- one round more -/
def stepX (F : Tab) (ro : List ABlk) (x : Ex) : Ex := fun c st => match c with
    | .skip => some (.norm, st)
    | .ops l => match runOps (callA F ro x) ro l st with
      | some st' => some (.norm, st')
      | none => none
    | .any l => match execAny (callA F ro x) ro l st with
      | some st' => some (.norm, st')
      | none => none
    | .seq a b => match x a st with
      | some (.norm, st') => x b st'
      | r => r
    | .cond c a b => match opd st.t c with
      | .b true => x a st
      | .b false => x b st
      | _ => none
    | .block id a => match x a st with
      | some (.exit i, st') => if i = id then some (.norm, st') else some (.exit i, st')
      | r => r
    | .loop a => match x a st with
      | some (.norm, st') => x (.loop a) st'
      | r => r
    | .exit id => some (.exit id, st)
    | .ret => some (.ret, st)
    | .flt l => match execFlt (callA F ro x) ro l st with
      | some st' => some (.norm, st')
      | none => none
    | .opsY l => match runOpsY (callA F ro x) (roundA x) ro l st with
      | some st' => some (.norm, st')
      | none => none
    | .rng v ps asg body => rngA (callA F ro x) ps asg body st (opd st.t v)

theorem exec_succ (F : Tab) (ro : List ABlk) (n : Nat) : exec F ro (n + 1) = stepX F ro (exec F ro n) := by
  funext c st
  cases c <;> rfl

theorem stepX_mono {F : Tab} {ro : List ABlk} {x x' : Ex} (hx : XLe x x') : XLe (stepX F ro x) (stepX F ro x') := by
  intro c st r h
  unfold stepX at h ⊢
  cases c with
  | skip => exact h
  | ops l =>
    simp only at h ⊢
    split at h
    · rename_i hr
      rw [runOps_mono (callA_mono hx) hr]; exact h
    · cases h
  | any l =>
    simp only at h ⊢
    split at h
    · rename_i hr
      rw [execAny_mono (callA_mono hx) hr]; exact h
    · cases h
  | seq a b =>
    simp only at h ⊢
    split at h
    · rename_i hr
      rw [hx _ _ _ hr]; exact hx _ _ _ h
    · rename_i hn
      rw [hx _ _ _ h]
      split
      · rename_i st' he
        cases he
        exact absurd h (hn _)
      · rfl
  | cond c a b =>
    simp only at h ⊢
    split at h
    · exact hx _ _ _ h
    · exact hx _ _ _ h
    · cases h
  | block id a =>
    simp only at h ⊢
    split at h
    · rename_i hr
      rw [hx _ _ _ hr]; exact h
    · rename_i hn
      rw [hx _ _ _ h]
      split
      · rename_i i st' he
        cases he
        exact absurd h (hn _ _)
      · rfl
  | loop a =>
    simp only at h ⊢
    split at h
    · rename_i hr
      rw [hx _ _ _ hr]; exact hx _ _ _ h
    · rename_i hn
      rw [hx _ _ _ h]
      split
      · rename_i st' he
        cases he
        exact absurd h (hn _)
      · rfl
  | exit id => exact h
  | ret => exact h
  | flt l =>
    simp only at h ⊢
    split at h
    · rename_i hr
      rw [execFlt_mono (callA_mono hx) hr]; exact h
    · cases h
  | opsY l =>
    simp only at h ⊢
    split at h
    · rename_i hr
      rw [runOpsY_mono (callA_mono hx) (roundA_mono hx) hr]; exact h
    · cases h
  | rng v ps asg body => exact rngA_mono (callA_mono hx) h

theorem exec_le (F : Tab) (ro : List ABlk) : ∀ n, XLe (exec F ro n) (exec F ro (n + 1))
  | 0 => fun c st r h => by cases h
  | n + 1 => by
    rw [exec_succ F ro n, exec_succ F ro (n + 1)]
    exact stepX_mono (exec_le F ro n)

theorem exec_mono (F : Tab) (ro : List ABlk) {n k : Nat} (hk : n ≤ k) : XLe (exec F ro n) (exec F ro k) := by
  induction hk with
  | refl => exact fun _ _ _ h => h
  | step _ ih => exact fun c st r h => exec_le F ro _ _ _ _ (ih c st r h)

open Classical in
/-- what the run answers in the end -/
noncomputable def X (F : Tab) (ro : List ABlk) : Ex := fun c st =>
  if h : ∃ r, ∃ n, exec F ro n c st = some r then some h.choose else none

noncomputable def callX (F : Tab) (ro : List ABlk) : Caller := callA F ro (X F ro)

theorem X_some {F : Tab} {ro : List ABlk} {c : ACode} {st : St} {r : AExit × St} : X F ro c st = some r ↔ ∃ n, exec F ro n c st = some r := by
  unfold X
  constructor
  · intro h
    split at h
    · rename_i hh
      cases h
      exact hh.choose_spec
    · cases h
  · rintro ⟨n, hn⟩
    have hh : ∃ r, ∃ n, exec F ro n c st = some r := ⟨r, n, hn⟩
    rw [dif_pos hh]
    obtain ⟨k, hk⟩ := hh.choose_spec
    have h1 := exec_mono F ro (Nat.le_max_left n k) _ _ _ hn
    have h2 := exec_mono F ro (Nat.le_max_right n k) _ _ _ hk
    rw [h1] at h2
    exact h2.symm

theorem exec_X (F : Tab) (ro : List ABlk) (n : Nat) : XLe (exec F ro n) (X F ro) := fun _ _ _ h => X_some.2 ⟨n, h⟩

/-- a finite run needs finitely much fuel -/
def Fin' (F : Tab) (ro : List ABlk) {α : Type} (p : Caller → Option α) : Prop := ∀ r, p (callX F ro) = some r → ∃ n, p (callA F ro (exec F ro n)) = some r

theorem callX_some {F : Tab} {ro : List ABlk} {f : Nat} {a : List AVal} {h : Heap} {r : AVal × Heap × Nat × Nat} : callX F ro f a h = some r ↔ ∃ n, callA F ro (exec F ro n) f a h = some r := by
  constructor
  · intro hr
    unfold callX callA at hr
    split at hr
    · rename_i ho
      refine ⟨0, ?_⟩
      unfold callA
      rw [ho]; exact hr
    rename_i ho
    split at hr
    · cases hr
    · rename_i fn hf
      split at hr
      · cases hr
      · rename_i hl
        split at hr
        · cases hr
        · rename_i e st hne hex
          obtain ⟨n, hn⟩ := X_some.1 hex
          refine ⟨n, ?_⟩
          unfold callA
          rw [ho, hf]
          simp only
          rw [if_neg hl, hn]
          simpa using hr
        · cases hr
  · rintro ⟨n, hn⟩
    exact callA_mono (exec_X F ro n) _ _ _ _ hn

theorem stepC_fin {F : Tab} {ro : List ABlk} {st : St} {k : Kind} {r : AVal × St} (h : stepC (callX F ro) ro st k = some r) : ∃ n, stepC (callA F ro (exec F ro n)) ro st k = some r := by
  unfold stepC at h
  split at h
  · split at h
    · rename_i hx
      obtain ⟨n, hn⟩ := callX_some.1 hx
      refine ⟨n, ?_⟩
      unfold stepC
      simp only
      rw [hn]; exact h
    · cases h
  · split at h
    · rename_i e
      split at h
      · rename_i hx
        obtain ⟨n, hn⟩ := callX_some.1 hx
        refine ⟨n, ?_⟩
        unfold stepC
        simp only [e]
        rw [hn]; exact h
      · cases h
    · cases h
  · split at h
    · rename_i f r e
      split at h
      · rename_i hx
        obtain ⟨n, hn⟩ := callX_some.1 hx
        refine ⟨n, ?_⟩
        unfold stepC
        simp only [e]
        rw [hn]; exact h
      · cases h
    · cases h
  · rename_i h1 h2 h3
    refine ⟨0, ?_⟩
    unfold stepC
    split
    · exact absurd rfl (h1 _ _)
    · exact absurd rfl (h2 _ _)
    · exact absurd rfl (h3 _ _ _)
    · exact h

theorem callA_le (F : Tab) (ro : List ABlk) {n k : Nat} (hk : n ≤ k) : CLe (callA F ro (exec F ro n)) (callA F ro (exec F ro k)) := callA_mono (exec_mono F ro hk)

theorem runOps_fin {F : Tab} {ro : List ABlk} : ∀ {l : List AOp} {st r : St}, runOps (callX F ro) ro l st = some r → ∃ n, runOps (callA F ro (exec F ro n)) ro l st = some r
  | [], _, _, h => ⟨0, h⟩
  | o :: l, st, r, h => by
    unfold runOps at h
    split at h
    · rename_i hw
      split at h
      · rename_i hx
        obtain ⟨n, hn⟩ := stepC_fin hx
        obtain ⟨k, hk⟩ := runOps_fin h
        refine ⟨max n k, ?_⟩
        unfold runOps
        rw [if_pos hw, stepC_mono (callA_le F ro (Nat.le_max_left n k)) hn]
        exact runOps_mono (callA_le F ro (Nat.le_max_right n k)) hk
      · cases h
    · rename_i hw
      obtain ⟨k, hk⟩ := runOps_fin h
      refine ⟨k, ?_⟩
      unfold runOps
      rw [if_neg hw]; exact hk

noncomputable def roundX (F : Tab) (ro : List ABlk) : Rounds := roundA (X F ro)

theorem roundX_fin {F : Tab} {ro : List ABlk} {b : Nat} {vs : List AVal} {h : Heap} {r : AVal × Heap × Nat × Nat} (hr : roundX F ro b vs h = some r) : ∃ n, roundA (exec F ro n) b vs h = some r := by
  unfold roundX roundA at hr
  split at hr
  · rename_i blk hb
    split at hr
    · rename_i L p hg
      cases hbe : Nat.beq vs.length L.ps.length <;> rw [hbe] at hr
      · cases hr
      · simp only [cond_true] at hr
        unfold roundB at hr
        split at hr
        · rename_i h1
          split at hr
          · rename_i h2
            split at hr
            · rename_i h3
              obtain ⟨n, hn⟩ := X_some.1 h1
              obtain ⟨k, hk⟩ := X_some.1 h3
              refine ⟨max n k, ?_⟩
              unfold roundA
              simp only [hb, hg, hbe, cond_true]
              unfold roundB
              rw [exec_mono F ro (Nat.le_max_left n k) _ _ _ hn]
              simp only [h2]
              rw [exec_mono F ro (Nat.le_max_right n k) _ _ _ hk]
              exact hr
            · cases hr
          · cases hr
        · cases hr
    · cases hr
  · cases hr

theorem roundA_le (F : Tab) (ro : List ABlk) {n k : Nat} (hk : n ≤ k) : RLe (roundA (exec F ro n)) (roundA (exec F ro k)) := roundA_mono (exec_mono F ro hk)

theorem stepY_fin {F : Tab} {ro : List ABlk} {st : St} {k : Kind} {r : AVal × St} (h : stepY (callX F ro) (roundX F ro) ro st k = some r) : ∃ n, stepY (callA F ro (exec F ro n)) (roundA (exec F ro n)) ro st k = some r := by
  cases k with
  | callv x args =>
    cases hv : opd st.t x with
    | yld b =>
      simp only [stepY, hv] at h ⊢
      split at h
      · rename_i hx
        obtain ⟨n, hn⟩ := roundX_fin hx
        exact ⟨n, by rw [hn]; exact h⟩
      · cases h
    | _ =>
      obtain ⟨n, hn⟩ := stepC_fin (k := .callv x args) (by simpa only [stepY, hv] using h)
      exact ⟨n, by simpa only [stepY, hv] using hn⟩
  | _ =>
    obtain ⟨n, hn⟩ := stepC_fin (by simpa only [stepY] using h)
    exact ⟨n, by simpa only [stepY] using hn⟩

theorem runOpsY_fin {F : Tab} {ro : List ABlk} : ∀ {l : List AOp} {st r : St}, runOpsY (callX F ro) (roundX F ro) ro l st = some r → ∃ n, runOpsY (callA F ro (exec F ro n)) (roundA (exec F ro n)) ro l st = some r
  | [], _, _, h => ⟨0, h⟩
  | o :: l, st, r, h => by
    unfold runOpsY at h
    split at h
    · rename_i hw
      split at h
      · rename_i hx
        obtain ⟨n, hn⟩ := stepY_fin hx
        obtain ⟨k, hk⟩ := runOpsY_fin h
        refine ⟨max n k, ?_⟩
        unfold runOpsY
        rw [if_pos hw, stepY_mono (callA_le F ro (Nat.le_max_left n k)) (roundA_le F ro (Nat.le_max_left n k)) hn]
        exact runOpsY_mono (callA_le F ro (Nat.le_max_right n k)) (roundA_le F ro (Nat.le_max_right n k)) hk
      · cases h
    · rename_i hw
      obtain ⟨k, hk⟩ := runOpsY_fin h
      refine ⟨k, ?_⟩
      unfold runOpsY
      rw [if_neg hw]; exact hk

theorem rngA_fin {F : Tab} {ro : List ABlk} {ps : List Nat} {asg body : ACode} {st : St} {v : AVal} {r : AExit × St} (h : rngA (callX F ro) ps asg body st v = some r) : ∃ n, rngA (callA F ro (exec F ro n)) ps asg body st v = some r := by
  unfold rngA at h
  split at h
  · split at h
    · rename_i hx
      obtain ⟨n, hn⟩ := callX_some.1 hx
      refine ⟨n, ?_⟩
      unfold rngA
      simp only
      rw [hn]; exact h
    · cases h
  · cases h

theorem anyK_fin {F : Tab} {ro : List ABlk} {h0 : Heap} {s : AnyS} {k : Kind} {fl : Bool} {r : AVal × AnyS} (h : anyK (callX F ro) ro h0 s k fl = some r) : ∃ n, anyK (callA F ro (exec F ro n)) ro h0 s k fl = some r := by
  unfold anyK at h
  split at h
  · exact ⟨0, h⟩
  · rename_i e
    refine ⟨0, ?_⟩
    unfold anyK
    exact h
  · exact ⟨0, h⟩
  · split at h
    · rename_i hb
      split at h
      · rename_i hx
        obtain ⟨n, hn⟩ := callX_some.1 hx
        refine ⟨n, ?_⟩
        unfold anyK
        simp only
        rw [if_pos hb, hn]; exact h
      · cases h
    · cases h
  · split at h
    · rename_i e
      split at h
      · rename_i hb
        split at h
        · rename_i hx
          obtain ⟨n, hn⟩ := callX_some.1 hx
          refine ⟨n, ?_⟩
          unfold anyK
          simp only [e]
          rw [if_pos hb, hn]; exact h
        · cases h
      · cases h
    · cases h
  · exact ⟨0, h⟩
  · cases h

theorem runAny_fin {F : Tab} {ro : List ABlk} {h0 : Heap} : ∀ {l : List (AOp × Bool)} {s r : AnyS}, runAny (callX F ro) ro h0 l s = some r → ∃ n, runAny (callA F ro (exec F ro n)) ro h0 l s = some r
  | [], _, _, h => ⟨0, h⟩
  | (o, fl) :: l, st, r, h => by
    unfold runAny at h
    split at h
    · rename_i hw
      split at h
      · rename_i hx
        obtain ⟨n, hn⟩ := anyK_fin hx
        obtain ⟨k, hk⟩ := runAny_fin h
        refine ⟨max n k, ?_⟩
        unfold runAny
        rw [if_pos hw, anyK_mono (callA_le F ro (Nat.le_max_left n k)) hn]
        exact runAny_mono (callA_le F ro (Nat.le_max_right n k)) hk
      · cases h
    · rename_i hw
      obtain ⟨k, hk⟩ := runAny_fin h
      refine ⟨k, ?_⟩
      unfold runAny
      rw [if_neg hw]; exact hk

theorem execAny_fin {F : Tab} {ro : List ABlk} {l : List (AOp × Bool)} {st r : St} (h : execAny (callX F ro) ro l st = some r) : ∃ n, execAny (callA F ro (exec F ro n)) ro l st = some r := by
  unfold execAny at h
  split at h
  · rename_i hx
    obtain ⟨n, hn⟩ := runAny_fin hx
    refine ⟨n, ?_⟩
    unfold execAny
    rw [hn]; exact h
  · cases h

theorem fstep_fin {F : Tab} {ro : List ABlk} {h0 : Heap} {af fl : Bool} {st : St} {k : Kind} {r : AVal × St} (h : fstep (callX F ro) ro h0 af fl st k = some r) : ∃ n, fstep (callA F ro (exec F ro n)) ro h0 af fl st k = some r := by
  unfold fstep at h
  cases hf : (fl && isLd k) with
  | true => exact ⟨0, by unfold fstep; rw [hf] at h ⊢; exact h⟩
  | false =>
    rw [hf] at h
    simp only [cond_false] at h
    split at h
    · rename_i hx
      obtain ⟨n, hn⟩ := stepC_fin hx
      refine ⟨n, ?_⟩
      unfold fstep
      simp only [hf, cond_false, hn]; exact h
    · cases h

theorem runFlt_fin {F : Tab} {ro : List ABlk} {h0 : Heap} {af : Bool} : ∀ {l : List (AOp × Bool)} {st r : St}, runFlt (callX F ro) ro h0 af l st = some r → ∃ n, runFlt (callA F ro (exec F ro n)) ro h0 af l st = some r
  | [], _, _, h => ⟨0, h⟩
  | (o, fl) :: l, st, r, h => by
    unfold runFlt at h
    split at h
    · rename_i hw
      split at h
      · rename_i hx
        obtain ⟨n, hn⟩ := fstep_fin hx
        obtain ⟨k, hk⟩ := runFlt_fin h
        refine ⟨max n k, ?_⟩
        unfold runFlt
        rw [if_pos hw, fstep_mono (callA_le F ro (Nat.le_max_left n k)) hn]
        exact runFlt_mono (callA_le F ro (Nat.le_max_right n k)) hk
      · cases h
    · rename_i hw
      obtain ⟨k, hk⟩ := runFlt_fin h
      refine ⟨k, ?_⟩
      unfold runFlt
      rw [if_neg hw]; exact hk

theorem execFlt_fin {F : Tab} {ro : List ABlk} {l : List (AOp × Bool)} {st r : St} (h : execFlt (callX F ro) ro l st = some r) : ∃ n, execFlt (callA F ro (exec F ro n)) ro l st = some r := by
  unfold execFlt at h
  split at h
  · rename_i hx
    obtain ⟨n, hn⟩ := runFlt_fin hx
    refine ⟨n, ?_⟩
    unfold execFlt
    rw [hn]; exact h
  · cases h

section
variable {F : Tab} {ro : List ABlk} {st : St}

theorem stepX_X : XLe (stepX F ro (X F ro)) (X F ro) := by
  intro c st r h
  have key : ∃ n, stepX F ro (exec F ro n) c st = some r := by
    unfold stepX at h ⊢
    cases c with
    | skip => exact ⟨0, h⟩
    | ops l =>
      simp only at h ⊢
      split at h
      · rename_i hr
        obtain ⟨n, hn⟩ := runOps_fin hr
        exact ⟨n, by rw [hn]; exact h⟩
      · cases h
    | any l =>
      simp only at h ⊢
      split at h
      · rename_i hr
        obtain ⟨n, hn⟩ := execAny_fin hr
        exact ⟨n, by rw [hn]; exact h⟩
      · cases h
    | seq a b =>
      simp only at h ⊢
      split at h
      · rename_i hr
        obtain ⟨n, hn⟩ := X_some.1 hr
        obtain ⟨k, hk⟩ := X_some.1 h
        refine ⟨max n k, ?_⟩
        rw [exec_mono F ro (Nat.le_max_left n k) _ _ _ hn]
        exact exec_mono F ro (Nat.le_max_right n k) _ _ _ hk
      · rename_i hne
        obtain ⟨n, hn⟩ := X_some.1 h
        refine ⟨n, ?_⟩
        rw [hn]
        split
        · rename_i st' he
          cases he
          exact absurd h (hne _)
        · rfl
    | cond c a b =>
      simp only at h ⊢
      split at h
      · obtain ⟨n, hn⟩ := X_some.1 h; exact ⟨n, hn⟩
      · obtain ⟨n, hn⟩ := X_some.1 h; exact ⟨n, hn⟩
      · cases h
    | block id a =>
      simp only at h ⊢
      split at h
      · rename_i hr
        obtain ⟨n, hn⟩ := X_some.1 hr
        exact ⟨n, by rw [hn]; exact h⟩
      · rename_i hne
        obtain ⟨n, hn⟩ := X_some.1 h
        refine ⟨n, ?_⟩
        rw [hn]
        split
        · rename_i i st' he
          cases he
          exact absurd h (hne _ _)
        · rfl
    | loop a =>
      simp only at h ⊢
      split at h
      · rename_i hr
        obtain ⟨n, hn⟩ := X_some.1 hr
        obtain ⟨k, hk⟩ := X_some.1 h
        refine ⟨max n k, ?_⟩
        rw [exec_mono F ro (Nat.le_max_left n k) _ _ _ hn]
        exact exec_mono F ro (Nat.le_max_right n k) _ _ _ hk
      · rename_i hne
        obtain ⟨n, hn⟩ := X_some.1 h
        refine ⟨n, ?_⟩
        rw [hn]
        split
        · rename_i st' he
          cases he
          exact absurd h (hne _)
        · rfl
    | exit id => exact ⟨0, h⟩
    | ret => exact ⟨0, h⟩
    | flt l =>
      simp only at h ⊢
      split at h
      · rename_i hr
        obtain ⟨n, hn⟩ := execFlt_fin hr
        exact ⟨n, by rw [hn]; exact h⟩
      · cases h
    | opsY l =>
      simp only at h ⊢
      split at h
      · rename_i hr
        obtain ⟨n, hn⟩ := runOpsY_fin hr
        exact ⟨n, by rw [hn]; exact h⟩
      · cases h
    | rng v ps asg body =>
      obtain ⟨n, hn⟩ := rngA_fin h
      exact ⟨n, hn⟩
  obtain ⟨n, hn⟩ := key
  exact X_some.2 ⟨n + 1, by rw [exec_succ]; exact hn⟩

/- rules -/
theorem X_skip : X F ro .skip st = some (.norm, st) := stepX_X _ _ _ rfl
theorem X_exit {id : Nat} : X F ro (.exit id) st = some (.exit id, st) := stepX_X _ _ _ rfl
theorem X_ret : X F ro .ret st = some (.ret, st) := stepX_X _ _ _ rfl

theorem X_ops {l : List AOp} {st' : St} (h : runOps (callX F ro) ro l st = some st') : X F ro (.ops l) st = some (.norm, st') :=
  stepX_X _ _ _ (by unfold stepX; simp only; rw [show callA F ro (X F ro) = callX F ro from rfl, h])

theorem X_opsY {l : List AOp} {st' : St} (h : runOpsY (callX F ro) (roundX F ro) ro l st = some st') : X F ro (.opsY l) st = some (.norm, st') :=
  stepX_X _ _ _ (by unfold stepX; simp only; rw [show callA F ro (X F ro) = callX F ro from rfl, show roundA (X F ro) = roundX F ro from rfl, h])

theorem X_rng {v : AOpd} {ps : List Nat} {asg body : ACode} {r : AExit × St} (h : rngA (callX F ro) ps asg body st (opd st.t v) = some r) : X F ro (.rng v ps asg body) st = some r :=
  stepX_X _ _ _ h

theorem X_flt {l : List (AOp × Bool)} {st' : St} (h : execFlt (callX F ro) ro l st = some st') : X F ro (.flt l) st = some (.norm, st') :=
  stepX_X _ _ _ (by unfold stepX; simp only; rw [show callA F ro (X F ro) = callX F ro from rfl, h])

theorem X_any {l : List (AOp × Bool)} {st' : St} (h : execAny (callX F ro) ro l st = some st') : X F ro (.any l) st = some (.norm, st') :=
  stepX_X _ _ _ (by unfold stepX; simp only; rw [show callA F ro (X F ro) = callX F ro from rfl, h])

theorem X_seq {a b : ACode} {st' : St} {r : AExit × St} (h : X F ro a st = some (.norm, st')) (h2 : X F ro b st' = some r) : X F ro (.seq a b) st = some r :=
  stepX_X _ _ _ (by unfold stepX; simp only; rw [h]; exact h2)

theorem X_seq_out {a b : ACode} {e : AExit} {st' : St} (h : X F ro a st = some (e, st')) (he : e ≠ .norm) : X F ro (.seq a b) st = some (e, st') :=
  stepX_X _ _ _ (by unfold stepX; simp only; rw [h]; cases e with | norm => exact absurd rfl he | exit i => rfl | ret => rfl)

theorem X_cond_true {x : AOpd} {a b : ACode} {r : AExit × St} (hx : opd st.t x = .b true) (h : X F ro a st = some r) : X F ro (.cond x a b) st = some r :=
  stepX_X _ _ _ (by unfold stepX; simp only; rw [hx]; exact h)

theorem X_cond_false {x : AOpd} {a b : ACode} {r : AExit × St} (hx : opd st.t x = .b false) (h : X F ro b st = some r) : X F ro (.cond x a b) st = some r :=
  stepX_X _ _ _ (by unfold stepX; simp only; rw [hx]; exact h)

theorem X_block {id : Nat} {a : ACode} {st' : St} {e e' : AExit} (h : X F ro a st = some (e, st')) (he : e' = match e with | .exit i => if i = id then .norm else .exit i | e => e) : X F ro (.block id a) st = some (e', st') :=
  stepX_X _ _ _ (by
    unfold stepX; simp only; rw [h, he]
    cases e with
    | norm => rfl
    | exit i => simp only; split <;> rfl
    | ret => rfl)

theorem X_loop_on {a : ACode} {st' : St} {r : AExit × St} (h : X F ro a st = some (.norm, st')) (h2 : X F ro (.loop a) st' = some r) : X F ro (.loop a) st = some r :=
  stepX_X _ _ _ (by unfold stepX; simp only; rw [h]; exact h2)

theorem X_loop_out {a : ACode} {e : AExit} {st' : St} (h : X F ro a st = some (e, st')) (he : e ≠ .norm) : X F ro (.loop a) st = some (e, st') :=
  stepX_X _ _ _ (by unfold stepX; simp only; rw [h]; cases e with | norm => exact absurd rfl he | exit i => rfl | ret => rfl)
end

end Go.Vm

/- What the small machine answers, without fuel: X and callX, their equations. -/
import Derived.Test.YtfohppnelbbepaaVmA
namespace Go.Vm
def CLe (c c' : qao) : Prop := ∀ f a h r, c f a h = some r → c' f a h = some r
theorem qes {c c' : qao} (hc : CLe c c') {ro : List ABlk} {st : St} {k : Kind} {r : AVal × St} (h : stepC c ro st k = some r) : stepC c' ro st k = some r := by
 unfold stepC at h ⊢
 split at h
 ·split at h
  ·rename_i hx
   rw [hc _ _ _ _ hx]; exact h
  ·cases h
 ·split at h
  ·split at h
   ·rename_i hx
    rw [hc _ _ _ _ hx]; exact h
   ·cases h
  ·cases h
 ·split at h
  ·split at h
   ·rename_i hx
    rw [hc _ _ _ _ hx]; exact h
   ·cases h
  ·cases h
 ·exact h
theorem qfk {c c' : qao} (hc : CLe c c') {ro : List ABlk} : ∀ {l : List AOp} {st r : St}, qcc c ro l st = some r → qcc c' ro l st = some r
 | [], _, _, h => h
 | o :: l, st, r, h => by
  unfold qcc at h ⊢
  split at h
  ·rename_i hw
   rw [if_pos hw]
   split at h
   ·rename_i hx
    rw [qes hc hx]; exact qfk hc h
   ·cases h
  ·rename_i hw
   rw [if_neg hw]; exact qfk hc h
theorem callNF_mono {c c' : qao} (hc : CLe c c') {h0 hh : Heap} {f : Nat} {args : List AVal} {r : AVal × Heap} (h : qdy c h0 hh f args = some r) : qdy c' h0 hh f args = some r := by
 unfold qdy at h ⊢
 cases e : bels h0.length args
 ·rw [e] at h; cases h
 ·rw [e] at h
  simp only [cond_true] at h ⊢
  split at h
  ·rename_i v h' lw lp hx
   rw [hc _ _ _ _ hx]
   simp only
   cases e2 : (Nat.ble h0.length lw && Nat.ble h0.length lp)
   ·rw [e2] at h; cases h
   ·rw [e2] at h
    simp only [cond_true] at h ⊢
    cases e3 : v.bel h0.length
    ·rw [e3] at h
     simp only [cond_false] at h ⊢
     split at h
     ·rename_i hx2
      rw [hc _ _ _ _ hx2]; exact h
     ·cases h
    ·rw [e3] at h; exact h
  ·cases h
theorem anyK_mono {c c' : qao} (hc : CLe c c') {ro : List ABlk} {h0 : Heap} {s : AnyS} {k : Kind} {fl : Bool} {r : AVal × AnyS} (h : anyK c ro h0 s k fl = some r) : anyK c' ro h0 s k fl = some r := by
 unfold anyK at h ⊢
 split at h <;> try exact h
 ·rw [Option.map_eq_some_iff] at h ⊢
  obtain ⟨p, hp, e⟩ := h
  exact ⟨p, callNF_mono hc hp, e⟩
 ·split at h
  ·rw [Option.map_eq_some_iff] at h ⊢
   obtain ⟨p, hp, e⟩ := h
   exact ⟨p, callNF_mono hc hp, e⟩
  ·cases h
theorem qfo {c c' : qao} (hc : CLe c c') {ro : List ABlk} {h0 : Heap} : ∀ {l : List (AOp × Bool)} {s r : AnyS}, qdw c ro h0 l s = some r → qdw c' ro h0 l s = some r
 | [], _, _, h => h
 | (o, fl) :: l, st, r, h => by
  unfold qdw at h ⊢
  split at h
  ·rename_i hw
   rw [if_pos hw]
   split at h
   ·rename_i hx
    rw [anyK_mono hc hx]; exact qfo hc h
   ·cases h
  ·rename_i hw
   rw [if_neg hw]; exact qfo hc h
theorem execAny_mono {c c' : qao} (hc : CLe c c') {ro : List ABlk} {l : List (AOp × Bool)} {st r : St} (h : qcp c ro l st = some r) : qcp c' ro l st = some r := by
 unfold qcp at h ⊢
 split at h
 ·rename_i hx
  rw [qfo hc hx]; exact h
 ·cases h
theorem fstep_mono {c c' : qao} (hc : CLe c c') {ro : List ABlk} {h0 : Heap} {af fl : Bool} {st : St} {k : Kind} {r : AVal × St} (h : fstep c ro h0 af fl st k = some r) : fstep c' ro h0 af fl st k = some r := by
 unfold fstep at h ⊢
 cases hf : (fl && isLd k) with
 | true => rw [hf] at h; exact h
 | false =>
  rw [hf] at h
  simp only [cond_false] at h ⊢
  split at h
  ·rename_i hx
   rw [qes hc hx]; exact h
  ·cases h
theorem qfm {c c' : qao} (hc : CLe c c') {ro : List ABlk} {h0 : Heap} {af : Bool} : ∀ {l : List (AOp × Bool)} {st r : St}, qcm c ro h0 af l st = some r → qcm c' ro h0 af l st = some r
 | [], _, _, h => h
 | (o, fl) :: l, st, r, h => by
  unfold qcm at h ⊢
  split at h
  ·rename_i hw
   rw [if_pos hw]
   split at h
   ·rename_i hx
    rw [fstep_mono hc hx]; exact qfm hc h
   ·cases h
  ·rename_i hw
   rw [if_neg hw]; exact qfm hc h
theorem execFlt_mono {c c' : qao} (hc : CLe c c') {ro : List ABlk} {l : List (AOp × Bool)} {st r : St} (h : qdm c ro l st = some r) : qdm c' ro l st = some r := by
 unfold qdm at h ⊢
 split at h
 ·rename_i hx
  rw [qfm hc hx]; exact h
 ·cases h
abbrev Ex := ACode → St → Option (AExit × St)
def XLe (x x' : Ex) : Prop := ∀ c st r, x c st = some r → x' c st = some r
theorem qdp {F : Tab} {ro : List ABlk} {x x' : Ex} (hx : XLe x x') : CLe (callA F ro x) (callA F ro x') := by
 intro f a h r hr
 unfold callA at hr ⊢
 split at hr
 ·exact hr
 split at hr
 ·cases hr
 ·rename_i fn hf
  split at hr
  ·cases hr
  ·rename_i hl
   rw [if_neg hl]
   split at hr
   ·cases hr
   ·rename_i e st hne hex
    rw [hx _ _ _ hex]
    simpa using hr
   ·cases hr
def RLe (r r' : qeh) : Prop := ∀ b vs h x, r b vs h = some x → r' b vs h = some x
theorem stepY_mono {c c' : qao} (hc : CLe c c') {u u' : qeh} (hu : RLe u u') {ro : List ABlk} {st : St} {k : Kind} {r : AVal × St} (h : stepY c u ro st k = some r) : stepY c' u' ro st k = some r := by
 unfold stepY at h ⊢
 split at h
 ·split at h
  ·split at h
   ·rename_i hx
    rw [hu _ _ _ _ hx]; exact h
   ·cases h
  ·exact qes hc h
 ·exact qes hc h
theorem qek {c c' : qao} (hc : CLe c c') {u u' : qeh} (hu : RLe u u') {ro : List ABlk} : ∀ {l : List AOp} {st r : St}, qch c u ro l st = some r → qch c' u' ro l st = some r
 | [], _, _, h => h
 | o :: l, st, r, h => by
  unfold qch at h ⊢
  split at h
  ·rename_i hw
   rw [if_pos hw]
   split at h
   ·rename_i hx
    rw [stepY_mono hc hu hx]; exact qek hc hu h
   ·cases h
  ·rename_i hw
   rw [if_neg hw]; exact qek hc hu h
theorem roundB_mono {x x' : Ex} (hx : XLe x x') {L : LRec} {b : Nat} {vs : List AVal} {h : Heap} {r : AVal × Heap × Nat × Nat} (hr : qje x L b vs h = some r) : qje x' L b vs h = some r := by
 unfold qje at hr ⊢
 split at hr
 ·rename_i s1 h1
  rw [hx _ _ _ h1]
  cases h2 : begL s1.h b with
  | none => simp only [h2] at hr; cases hr
  | some h1' =>
   simp only [h2] at hr ⊢
   split at hr
   ·rename_i h3
    rw [hx _ _ _ h3]; exact hr
   ·cases hr
 ·cases hr
theorem qkm {x x' : Ex} (hx : XLe x x') : RLe (qdh x) (qdh x') := by
 intro b vs h r hr
 unfold qdh at hr ⊢
 split at hr
 ·split at hr
  ·cases hb : Nat.beq vs.length _ <;> rw [hb] at hr
   ·cases hr
   ·exact roundB_mono hx hr
  ·cases hr
 ·cases hr
theorem rngA_mono {c c' : qao} (hc : CLe c c') {ps : List Nat} {asg body : ACode} {st : St} {v : AVal} {r : AExit × St} (h : rngA c ps asg body st v = some r) : rngA c' ps asg body st v = some r := by
 unfold rngA at h ⊢
 split at h
 ·split at h
  ·rename_i hx
   rw [hc _ _ _ _ hx]; exact h
  ·cases h
 ·cases h
def stepX (F : Tab) (ro : List ABlk) (x : Ex) : Ex := fun c st => match c with
  | .skip => some (.norm, st)
  | .ops l => match qcc (callA F ro x) ro l st with
   | some st' => some (.norm, st')
   | none => none
  | .any l => match qcp (callA F ro x) ro l st with
   | some st' => some (.norm, st')
   | none => none
  | .seq a b => match x a st with
   | some (.norm, st') => x b st'
   | r => r
  | .cond c a b => match opd st.t c with
   | .b true => x a st
   | .b false => x b st
   | _ => none
  | .block id a => match x a st with
   | some (.exit i, st') => if i = id then some (.norm, st') else some (.exit i, st')
   | r => r
  | .loop a => match x a st with
   | some (.norm, st') => x (.loop a) st'
   | r => r
  | .exit id => some (.exit id, st)
  | .ret => some (.ret, st)
  | .flt l => match qdm (callA F ro x) ro l st with
   | some st' => some (.norm, st')
   | none => none
  | .opsY l => match qch (callA F ro x) (qdh x) ro l st with
   | some st' => some (.norm, st')
   | none => none
  | .rng v ps asg body => rngA (callA F ro x) ps asg body st (opd st.t v)
theorem qld (F : Tab) (ro : List ABlk) (n : Nat) : exec F ro (n + 1) = stepX F ro (exec F ro n) := by
 funext c st
 cases c <;> rfl
theorem stepX_mono {F : Tab} {ro : List ABlk} {x x' : Ex} (hx : XLe x x') : XLe (stepX F ro x) (stepX F ro x') := by
 intro c st r h
 unfold stepX at h ⊢
 cases c with
 | skip => exact h
 | ops l =>
  simp only at h ⊢
  split at h
  ·rename_i hr
   rw [qfk (qdp hx) hr]; exact h
  ·cases h
 | any l =>
  simp only at h ⊢
  split at h
  ·rename_i hr
   rw [execAny_mono (qdp hx) hr]; exact h
  ·cases h
 | seq a b =>
  simp only at h ⊢
  split at h
  ·rename_i hr
   rw [hx _ _ _ hr]; exact hx _ _ _ h
  ·rename_i hn
   rw [hx _ _ _ h]
   split
   ·rename_i st' he
    cases he
    exact absurd h (hn _)
   ·rfl
 | cond c a b =>
  simp only at h ⊢
  split at h
  ·exact hx _ _ _ h
  ·exact hx _ _ _ h
  ·cases h
 | block id a =>
  simp only at h ⊢
  split at h
  ·rename_i hr
   rw [hx _ _ _ hr]; exact h
  ·rename_i hn
   rw [hx _ _ _ h]
   split
   ·rename_i i st' he
    cases he
    exact absurd h (hn _ _)
   ·rfl
 | loop a =>
  simp only at h ⊢
  split at h
  ·rename_i hr
   rw [hx _ _ _ hr]; exact hx _ _ _ h
  ·rename_i hn
   rw [hx _ _ _ h]
   split
   ·rename_i st' he
    cases he
    exact absurd h (hn _)
   ·rfl
 | exit id => exact h
 | ret => exact h
 | flt l =>
  simp only at h ⊢
  split at h
  ·rename_i hr
   rw [execFlt_mono (qdp hx) hr]; exact h
  ·cases h
 | opsY l =>
  simp only at h ⊢
  split at h
  ·rename_i hr
   rw [qek (qdp hx) (qkm hx) hr]; exact h
  ·cases h
 | rng v ps asg body => exact rngA_mono (qdp hx) h
theorem exec_le (F : Tab) (ro : List ABlk) : ∀ n, XLe (exec F ro n) (exec F ro (n + 1))
 | 0 => fun c st r h => by cases h
 | n + 1 => by
  rw [qld F ro n, qld F ro (n + 1)]
  exact stepX_mono (exec_le F ro n)
theorem qcu (F : Tab) (ro : List ABlk) {n k : Nat} (hk : n ≤ k) : XLe (exec F ro n) (exec F ro k) := by
 induction hk with
 | refl => exact fun _ _ _ h => h
 | step _ ih => exact fun c st r h => exec_le F ro _ _ _ _ (ih c st r h)
open Classical in
noncomputable def X (F : Tab) (ro : List ABlk) : Ex := fun c st =>
 if h : ∃ r, ∃ n, exec F ro n c st = some r then some h.choose else none
noncomputable def callX (F : Tab) (ro : List ABlk) : qao := callA F ro (X F ro)
theorem qeg {F : Tab} {ro : List ABlk} {c : ACode} {st : St} {r : AExit × St} : X F ro c st = some r ↔ ∃ n, exec F ro n c st = some r := by
 unfold X
 constructor
 ·intro h
  split at h
  ·rename_i hh
   cases h
   exact hh.choose_spec
  ·cases h
 ·rintro ⟨n, hn⟩
  have hh : ∃ r, ∃ n, exec F ro n c st = some r := ⟨r, n, hn⟩
  rw [dif_pos hh]
  obtain ⟨k, hk⟩ := hh.choose_spec
  have h1 := qcu F ro (Nat.le_max_left n k) _ _ _ hn
  have h2 := qcu F ro (Nat.le_max_right n k) _ _ _ hk
  rw [h1] at h2
  exact h2.symm
theorem exec_X (F : Tab) (ro : List ABlk) (n : Nat) : XLe (exec F ro n) (X F ro) := fun _ _ _ h => qeg.2 ⟨n, h⟩
theorem qde {F : Tab} {ro : List ABlk} {f : Nat} {a : List AVal} {h : Heap} {r : AVal × Heap × Nat × Nat} : callX F ro f a h = some r ↔ ∃ n, callA F ro (exec F ro n) f a h = some r := by
 constructor
 ·intro hr
  unfold callX callA at hr
  split at hr
  ·rename_i ho
   refine ⟨0, ?_⟩
   unfold callA
   rw [ho]; exact hr
  rename_i ho
  split at hr
  ·cases hr
  ·rename_i fn hf
   split at hr
   ·cases hr
   ·rename_i hl
    split at hr
    ·cases hr
    ·rename_i e st hne hex
     obtain ⟨n, hn⟩ := qeg.1 hex
     refine ⟨n, ?_⟩
     unfold callA
     rw [ho, hf]
     simp only
     rw [if_neg hl, hn]
     simpa using hr
    ·cases hr
 ·rintro ⟨n, hn⟩
  exact qdp (exec_X F ro n) _ _ _ _ hn
theorem qhp {F : Tab} {ro : List ABlk} {st : St} {k : Kind} {r : AVal × St} (h : stepC (callX F ro) ro st k = some r) : ∃ n, stepC (callA F ro (exec F ro n)) ro st k = some r := by
 unfold stepC at h
 split at h
 ·split at h
  ·rename_i hx
   obtain ⟨n, hn⟩ := qde.1 hx
   refine ⟨n, ?_⟩
   unfold stepC
   simp only
   rw [hn]; exact h
  ·cases h
 ·split at h
  ·rename_i e
   split at h
   ·rename_i hx
    obtain ⟨n, hn⟩ := qde.1 hx
    refine ⟨n, ?_⟩
    unfold stepC
    simp only [e]
    rw [hn]; exact h
   ·cases h
  ·cases h
 ·split at h
  ·rename_i f r e
   split at h
   ·rename_i hx
    obtain ⟨n, hn⟩ := qde.1 hx
    refine ⟨n, ?_⟩
    unfold stepC
    simp only [e]
    rw [hn]; exact h
   ·cases h
  ·cases h
 ·rename_i h1 h2 h3
  refine ⟨0, ?_⟩
  unfold stepC
  split
  ·exact absurd rfl (h1 _ _)
  ·exact absurd rfl (h2 _ _)
  ·exact absurd rfl (h3 _ _ _)
  ·exact h
theorem qdt (F : Tab) (ro : List ABlk) {n k : Nat} (hk : n ≤ k) : CLe (callA F ro (exec F ro n)) (callA F ro (exec F ro k)) := qdp (qcu F ro hk)
theorem qii {F : Tab} {ro : List ABlk} : ∀ {l : List AOp} {st r : St}, qcc (callX F ro) ro l st = some r → ∃ n, qcc (callA F ro (exec F ro n)) ro l st = some r
 | [], _, _, h => ⟨0, h⟩
 | o :: l, st, r, h => by
  unfold qcc at h
  split at h
  ·rename_i hw
   split at h
   ·rename_i hx
    obtain ⟨n, hn⟩ := qhp hx
    obtain ⟨k, hk⟩ := qii h
    refine ⟨max n k, ?_⟩
    unfold qcc
    rw [if_pos hw, qes (qdt F ro (Nat.le_max_left n k)) hn]
    exact qfk (qdt F ro (Nat.le_max_right n k)) hk
   ·cases h
  ·rename_i hw
   obtain ⟨k, hk⟩ := qii h
   refine ⟨k, ?_⟩
   unfold qcc
   rw [if_neg hw]; exact hk
noncomputable def qdx (F : Tab) (ro : List ABlk) : qeh := qdh (X F ro)
theorem roundX_fin {F : Tab} {ro : List ABlk} {b : Nat} {vs : List AVal} {h : Heap} {r : AVal × Heap × Nat × Nat} (hr : qdx F ro b vs h = some r) : ∃ n, qdh (exec F ro n) b vs h = some r := by
 unfold qdx qdh at hr
 split at hr
 ·rename_i blk hb
  split at hr
  ·rename_i L p hg
   cases hbe : Nat.beq vs.length L.ps.length <;> rw [hbe] at hr
   ·cases hr
   ·simp only [cond_true] at hr
    unfold qje at hr
    split at hr
    ·rename_i h1
     split at hr
     ·rename_i h2
      split at hr
      ·rename_i h3
       obtain ⟨n, hn⟩ := qeg.1 h1
       obtain ⟨k, hk⟩ := qeg.1 h3
       refine ⟨max n k, ?_⟩
       unfold qdh
       simp only [hb, hg, hbe, cond_true]
       unfold qje
       rw [qcu F ro (Nat.le_max_left n k) _ _ _ hn]
       simp only [h2]
       rw [qcu F ro (Nat.le_max_right n k) _ _ _ hk]
       exact hr
      ·cases hr
     ·cases hr
    ·cases hr
  ·cases hr
 ·cases hr
theorem roundA_le (F : Tab) (ro : List ABlk) {n k : Nat} (hk : n ≤ k) : RLe (qdh (exec F ro n)) (qdh (exec F ro k)) := qkm (qcu F ro hk)
theorem stepY_fin {F : Tab} {ro : List ABlk} {st : St} {k : Kind} {r : AVal × St} (h : stepY (callX F ro) (qdx F ro) ro st k = some r) : ∃ n, stepY (callA F ro (exec F ro n)) (qdh (exec F ro n)) ro st k = some r := by
 cases k with
 | callv x args =>
  cases hv : opd st.t x with
  | yld b =>
   simp only [stepY, hv] at h ⊢
   split at h
   ·rename_i hx
    obtain ⟨n, hn⟩ := roundX_fin hx
    exact ⟨n, by rw [hn]; exact h⟩
   ·cases h
  | _ =>
   obtain ⟨n, hn⟩ := qhp (k := .callv x args) (by simpa only [stepY, hv] using h)
   exact ⟨n, by simpa only [stepY, hv] using hn⟩
 | _ =>
  obtain ⟨n, hn⟩ := qhp (by simpa only [stepY] using h)
  exact ⟨n, by simpa only [stepY] using hn⟩
theorem qhe {F : Tab} {ro : List ABlk} : ∀ {l : List AOp} {st r : St}, qch (callX F ro) (qdx F ro) ro l st = some r → ∃ n, qch (callA F ro (exec F ro n)) (qdh (exec F ro n)) ro l st = some r
 | [], _, _, h => ⟨0, h⟩
 | o :: l, st, r, h => by
  unfold qch at h
  split at h
  ·rename_i hw
   split at h
   ·rename_i hx
    obtain ⟨n, hn⟩ := stepY_fin hx
    obtain ⟨k, hk⟩ := qhe h
    refine ⟨max n k, ?_⟩
    unfold qch
    rw [if_pos hw, stepY_mono (qdt F ro (Nat.le_max_left n k)) (roundA_le F ro (Nat.le_max_left n k)) hn]
    exact qek (qdt F ro (Nat.le_max_right n k)) (roundA_le F ro (Nat.le_max_right n k)) hk
   ·cases h
  ·rename_i hw
   obtain ⟨k, hk⟩ := qhe h
   refine ⟨k, ?_⟩
   unfold qch
   rw [if_neg hw]; exact hk
theorem rngA_fin {F : Tab} {ro : List ABlk} {ps : List Nat} {asg body : ACode} {st : St} {v : AVal} {r : AExit × St} (h : rngA (callX F ro) ps asg body st v = some r) : ∃ n, rngA (callA F ro (exec F ro n)) ps asg body st v = some r := by
 unfold rngA at h
 split at h
 ·split at h
  ·rename_i hx
   obtain ⟨n, hn⟩ := qde.1 hx
   refine ⟨n, ?_⟩
   unfold rngA
   simp only
   rw [hn]; exact h
  ·cases h
 ·cases h
theorem callNF_fin {F : Tab} {ro : List ABlk} {h0 hh : Heap} {f : Nat} {args : List AVal} {r : AVal × Heap} (h : qdy (callX F ro) h0 hh f args = some r) : ∃ n, qdy (callA F ro (exec F ro n)) h0 hh f args = some r := by
 unfold qdy at h
 cases e : bels h0.length args
 ·rw [e] at h; cases h
 ·rw [e] at h
  simp only [cond_true] at h
  split at h
  ·rename_i v h' lw lp hx
   obtain ⟨n, hn⟩ := qde.1 hx
   cases e2 : (Nat.ble h0.length lw && Nat.ble h0.length lp)
   ·rw [e2] at h; cases h
   ·rw [e2] at h
    simp only [cond_true] at h
    cases e3 : v.bel h0.length
    ·rw [e3] at h
     simp only [cond_false] at h
     split at h
     ·rename_i v2 h2 lw2 lp2 hx2
      obtain ⟨k, hk⟩ := qde.1 hx2
      refine ⟨max n k, ?_⟩
      unfold qdy
      simp only [e, cond_true, qdt F ro (Nat.le_max_left n k) _ _ _ _ hn, e2, e3, cond_false, qdt F ro (Nat.le_max_right n k) _ _ _ _ hk]
      exact h
     ·cases h
    ·rw [e3] at h
     refine ⟨n, ?_⟩
     unfold qdy
     simp only [e, cond_true, hn, e2, e3]
     exact h
  ·cases h
theorem anyK_fin {F : Tab} {ro : List ABlk} {h0 : Heap} {s : AnyS} {k : Kind} {fl : Bool} {r : AVal × AnyS} (h : anyK (callX F ro) ro h0 s k fl = some r) : ∃ n, anyK (callA F ro (exec F ro n)) ro h0 s k fl = some r := by
 unfold anyK at h
 split at h
 ·exact ⟨0, h⟩
 ·rename_i e
  refine ⟨0, ?_⟩
  unfold anyK
  exact h
 ·exact ⟨0, h⟩
 ·rw [Option.map_eq_some_iff] at h
  obtain ⟨p, hp, e⟩ := h
  obtain ⟨n, hn⟩ := callNF_fin hp
  refine ⟨n, ?_⟩
  unfold anyK
  simp only
  rw [hn]
  exact congrArg some e
 ·split at h
  ·rename_i e0
   rw [Option.map_eq_some_iff] at h
   obtain ⟨p, hp, e⟩ := h
   obtain ⟨n, hn⟩ := callNF_fin hp
   refine ⟨n, ?_⟩
   unfold anyK
   simp only [e0]
   rw [hn]
   exact congrArg some e
  ·cases h
 ·exact ⟨0, h⟩
 ·exact ⟨0, h⟩
 ·cases h
theorem qik {F : Tab} {ro : List ABlk} {h0 : Heap} : ∀ {l : List (AOp × Bool)} {s r : AnyS}, qdw (callX F ro) ro h0 l s = some r → ∃ n, qdw (callA F ro (exec F ro n)) ro h0 l s = some r
 | [], _, _, h => ⟨0, h⟩
 | (o, fl) :: l, st, r, h => by
  unfold qdw at h
  split at h
  ·rename_i hw
   split at h
   ·rename_i hx
    obtain ⟨n, hn⟩ := anyK_fin hx
    obtain ⟨k, hk⟩ := qik h
    refine ⟨max n k, ?_⟩
    unfold qdw
    rw [if_pos hw, anyK_mono (qdt F ro (Nat.le_max_left n k)) hn]
    exact qfo (qdt F ro (Nat.le_max_right n k)) hk
   ·cases h
  ·rename_i hw
   obtain ⟨k, hk⟩ := qik h
   refine ⟨k, ?_⟩
   unfold qdw
   rw [if_neg hw]; exact hk
theorem execAny_fin {F : Tab} {ro : List ABlk} {l : List (AOp × Bool)} {st r : St} (h : qcp (callX F ro) ro l st = some r) : ∃ n, qcp (callA F ro (exec F ro n)) ro l st = some r := by
 unfold qcp at h
 split at h
 ·rename_i hx
  obtain ⟨n, hn⟩ := qik hx
  refine ⟨n, ?_⟩
  unfold qcp
  rw [hn]; exact h
 ·cases h
theorem fstep_fin {F : Tab} {ro : List ABlk} {h0 : Heap} {af fl : Bool} {st : St} {k : Kind} {r : AVal × St} (h : fstep (callX F ro) ro h0 af fl st k = some r) : ∃ n, fstep (callA F ro (exec F ro n)) ro h0 af fl st k = some r := by
 unfold fstep at h
 cases hf : (fl && isLd k) with
 | true => exact ⟨0, by unfold fstep; rw [hf] at h ⊢; exact h⟩
 | false =>
  rw [hf] at h
  simp only [cond_false] at h
  split at h
  ·rename_i hx
   obtain ⟨n, hn⟩ := qhp hx
   refine ⟨n, ?_⟩
   unfold fstep
   simp only [hf, cond_false, hn]; exact h
  ·cases h
theorem qij {F : Tab} {ro : List ABlk} {h0 : Heap} {af : Bool} : ∀ {l : List (AOp × Bool)} {st r : St}, qcm (callX F ro) ro h0 af l st = some r → ∃ n, qcm (callA F ro (exec F ro n)) ro h0 af l st = some r
 | [], _, _, h => ⟨0, h⟩
 | (o, fl) :: l, st, r, h => by
  unfold qcm at h
  split at h
  ·rename_i hw
   split at h
   ·rename_i hx
    obtain ⟨n, hn⟩ := fstep_fin hx
    obtain ⟨k, hk⟩ := qij h
    refine ⟨max n k, ?_⟩
    unfold qcm
    rw [if_pos hw, fstep_mono (qdt F ro (Nat.le_max_left n k)) hn]
    exact qfm (qdt F ro (Nat.le_max_right n k)) hk
   ·cases h
  ·rename_i hw
   obtain ⟨k, hk⟩ := qij h
   refine ⟨k, ?_⟩
   unfold qcm
   rw [if_neg hw]; exact hk
theorem execFlt_fin {F : Tab} {ro : List ABlk} {l : List (AOp × Bool)} {st r : St} (h : qdm (callX F ro) ro l st = some r) : ∃ n, qdm (callA F ro (exec F ro n)) ro l st = some r := by
 unfold qdm at h
 split at h
 ·rename_i hx
  obtain ⟨n, hn⟩ := qij hx
  refine ⟨n, ?_⟩
  unfold qdm
  rw [hn]; exact h
 ·cases h
section
variable {F : Tab} {ro : List ABlk} {st : St}
theorem qda : XLe (stepX F ro (X F ro)) (X F ro) := by
 intro c st r h
 have key : ∃ n, stepX F ro (exec F ro n) c st = some r := by
  unfold stepX at h ⊢
  cases c with
  | skip => exact ⟨0, h⟩
  | ops l =>
   simp only at h ⊢
   split at h
   ·rename_i hr
    obtain ⟨n, hn⟩ := qii hr
    exact ⟨n, by rw [hn]; exact h⟩
   ·cases h
  | any l =>
   simp only at h ⊢
   split at h
   ·rename_i hr
    obtain ⟨n, hn⟩ := execAny_fin hr
    exact ⟨n, by rw [hn]; exact h⟩
   ·cases h
  | seq a b =>
   simp only at h ⊢
   split at h
   ·rename_i hr
    obtain ⟨n, hn⟩ := qeg.1 hr
    obtain ⟨k, hk⟩ := qeg.1 h
    refine ⟨max n k, ?_⟩
    rw [qcu F ro (Nat.le_max_left n k) _ _ _ hn]
    exact qcu F ro (Nat.le_max_right n k) _ _ _ hk
   ·rename_i hne
    obtain ⟨n, hn⟩ := qeg.1 h
    refine ⟨n, ?_⟩
    rw [hn]
    split
    ·rename_i st' he
     cases he
     exact absurd h (hne _)
    ·rfl
  | cond c a b =>
   simp only at h ⊢
   split at h
   ·obtain ⟨n, hn⟩ := qeg.1 h; exact ⟨n, hn⟩
   ·obtain ⟨n, hn⟩ := qeg.1 h; exact ⟨n, hn⟩
   ·cases h
  | block id a =>
   simp only at h ⊢
   split at h
   ·rename_i hr
    obtain ⟨n, hn⟩ := qeg.1 hr
    exact ⟨n, by rw [hn]; exact h⟩
   ·rename_i hne
    obtain ⟨n, hn⟩ := qeg.1 h
    refine ⟨n, ?_⟩
    rw [hn]
    split
    ·rename_i i st' he
     cases he
     exact absurd h (hne _ _)
    ·rfl
  | loop a =>
   simp only at h ⊢
   split at h
   ·rename_i hr
    obtain ⟨n, hn⟩ := qeg.1 hr
    obtain ⟨k, hk⟩ := qeg.1 h
    refine ⟨max n k, ?_⟩
    rw [qcu F ro (Nat.le_max_left n k) _ _ _ hn]
    exact qcu F ro (Nat.le_max_right n k) _ _ _ hk
   ·rename_i hne
    obtain ⟨n, hn⟩ := qeg.1 h
    refine ⟨n, ?_⟩
    rw [hn]
    split
    ·rename_i st' he
     cases he
     exact absurd h (hne _)
    ·rfl
  | exit id => exact ⟨0, h⟩
  | ret => exact ⟨0, h⟩
  | flt l =>
   simp only at h ⊢
   split at h
   ·rename_i hr
    obtain ⟨n, hn⟩ := execFlt_fin hr
    exact ⟨n, by rw [hn]; exact h⟩
   ·cases h
  | opsY l =>
   simp only at h ⊢
   split at h
   ·rename_i hr
    obtain ⟨n, hn⟩ := qhe hr
    exact ⟨n, by rw [hn]; exact h⟩
   ·cases h
  | rng v ps asg body =>
   obtain ⟨n, hn⟩ := rngA_fin h
   exact ⟨n, hn⟩
 obtain ⟨n, hn⟩ := key
 exact qeg.2 ⟨n + 1, by rw [qld]; exact hn⟩
/- rules -/
theorem X_skip : X F ro .skip st = some (.norm, st) := qda _ _ _ rfl
theorem X_exit {id : Nat} : X F ro (.exit id) st = some (.exit id, st) := qda _ _ _ rfl
theorem X_ret : X F ro .ret st = some (.ret, st) := qda _ _ _ rfl
theorem X_ops {l : List AOp} {st' : St} (h : qcc (callX F ro) ro l st = some st') : X F ro (.ops l) st = some (.norm, st') :=
 qda _ _ _ (by unfold stepX; simp only; rw [show callA F ro (X F ro) = callX F ro from rfl, h])
theorem X_opsY {l : List AOp} {st' : St} (h : qch (callX F ro) (qdx F ro) ro l st = some st') : X F ro (.opsY l) st = some (.norm, st') :=
 qda _ _ _ (by unfold stepX; simp only; rw [show callA F ro (X F ro) = callX F ro from rfl, show qdh (X F ro) = qdx F ro from rfl, h])
theorem X_rng {v : AOpd} {ps : List Nat} {asg body : ACode} {r : AExit × St} (h : rngA (callX F ro) ps asg body st (opd st.t v) = some r) : X F ro (.rng v ps asg body) st = some r :=
 qda _ _ _ h
theorem X_flt {l : List (AOp × Bool)} {st' : St} (h : qdm (callX F ro) ro l st = some st') : X F ro (.flt l) st = some (.norm, st') :=
 qda _ _ _ (by unfold stepX; simp only; rw [show callA F ro (X F ro) = callX F ro from rfl, h])
theorem X_any {l : List (AOp × Bool)} {st' : St} (h : qcp (callX F ro) ro l st = some st') : X F ro (.any l) st = some (.norm, st') :=
 qda _ _ _ (by unfold stepX; simp only; rw [show callA F ro (X F ro) = callX F ro from rfl, h])
theorem X_seq {a b : ACode} {st' : St} {r : AExit × St} (h : X F ro a st = some (.norm, st')) (h2 : X F ro b st' = some r) : X F ro (.seq a b) st = some r :=
 qda _ _ _ (by unfold stepX; simp only; rw [h]; exact h2)
theorem X_seq_out {a b : ACode} {e : AExit} {st' : St} (h : X F ro a st = some (e, st')) (he : e ≠ .norm) : X F ro (.seq a b) st = some (e, st') :=
 qda _ _ _ (by unfold stepX; simp only; rw [h]; cases e with | norm => exact absurd rfl he | exit i => rfl | ret => rfl)
theorem X_cond_true {x : AOpd} {a b : ACode} {r : AExit × St} (hx : opd st.t x = .b true) (h : X F ro a st = some r) : X F ro (.cond x a b) st = some r :=
 qda _ _ _ (by unfold stepX; simp only; rw [hx]; exact h)
theorem X_cond_false {x : AOpd} {a b : ACode} {r : AExit × St} (hx : opd st.t x = .b false) (h : X F ro b st = some r) : X F ro (.cond x a b) st = some r :=
 qda _ _ _ (by unfold stepX; simp only; rw [hx]; exact h)
theorem X_block {id : Nat} {a : ACode} {st' : St} {e e' : AExit} (h : X F ro a st = some (e, st')) (he : e' = match e with | .exit i => if i = id then .norm else .exit i | e => e) : X F ro (.block id a) st = some (e', st') :=
 qda _ _ _ (by
  unfold stepX; simp only; rw [h, he]
  cases e with
  | norm => rfl
  | exit i => simp only; split <;> rfl
  | ret => rfl)
theorem X_loop_on {a : ACode} {st' : St} {r : AExit × St} (h : X F ro a st = some (.norm, st')) (h2 : X F ro (.loop a) st' = some r) : X F ro (.loop a) st = some r :=
 qda _ _ _ (by unfold stepX; simp only; rw [h]; exact h2)
theorem X_loop_out {a : ACode} {e : AExit} {st' : St} (h : X F ro a st = some (e, st')) (he : e ≠ .norm) : X F ro (.loop a) st = some (e, st') :=
 qda _ _ _ (by unfold stepX; simp only; rw [h]; cases e with | norm => exact absurd rfl he | exit i => rfl | ret => rfl)
end
end Go.Vm

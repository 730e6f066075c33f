/- WeedMirrored: for every rule, every string and every number of years the law returns true, and the arguments read behind the call as they read before. No conditions. -/
import Derived.Test.YtjjinlljdfaipaaVmWy
import Derived.Test.YtjjinlljdfaipaaVmM13
import Derived.ChangeMaps5
open Go.Vm
set_option linter.unusedVariables false
namespace Go.Proofs.Ytjjinlljdfaipaa.W
open Go Go.RowKit Go.Deep Go.WideShapes Go.ChangeShapes Go.ChangeAt

/-- what is known of the calls of the law -/
noncomputable def K13 : Caller := fun f a h =>
  if f = 28 ∨ f = 30 ∨ f = 36 ∨ f = 38 ∨ f = 15 then callX F3 [] f a h else if f = 18 ∨ f = 41 ∨ f = 42 then callX F1 [] f a h else none
noncomputable abbrev F13 : Tab := ⟨F, K13⟩
theorem q3 {f : Nat} {a : List AVal} {h : Heap} {r : AVal × Heap × Nat × Nat} (hf : f = 28 ∨ f = 30 ∨ f = 36 ∨ f = 38 ∨ f = 15) (e : callX F3 [] f a h = some r) : callX F13 [] f a h = some r := callX_ov (by show K13 f a h = _; unfold K13; rw [if_pos hf]; exact e)
theorem q1 {f : Nat} {a : List AVal} {h : Heap} {r : AVal × Heap × Nat × Nat} (hf : f = 18 ∨ f = 41 ∨ f = 42) (e : callX F1 [] f a h = some r) : callX F13 [] f a h = some r := callX_ov (by show K13 f a h = _; unfold K13; rw [if_neg (by omega), if_pos hf]; exact e)
theorem call_of13 (alive : callX ⟨F, noCall⟩ [] 15 [] [] = some (.b true, [], 0, 0)) {W : World} (hE : (Env.mk Try.prog W.heap.size W [] []).Ok) {K : Nat} {vs : List AVal} {args : Array Value}
    (hv : LR [] [] vs args) {h' : Heap} {lw lp : Nat} (hc : callX F13 [] K vs [] = some (.b true, h', lw, lp)) : Calls Try.prog K args W fun e W' => e = .returned (.bool true) ∧ RowKit.Below W.heap.size W W' := by
  have hm : (Env.mk Try.prog W.heap.size W [] []).P.follows .mixedOrders = true := Try.checked.mixed
  have hO : CallOk (Env.mk Try.prog W.heap.size W [] []) (known0 15 (.b true)) := known0_of hE hm fok alive rfl
  have h0 : CallOk (Env.mk Try.prog W.heap.size W [] []) (callX F1 []) := callX_sound hE hm (F := F1) fok hO
  have h1 : CallOk (Env.mk Try.prog W.heap.size W [] []) leafO := le_ok h0 fun _ _ _ _ e => leaf_le e
  have hEb := Env.bare_ok hE
  have hOb : CallOk (Env.mk Try.prog W.heap.size W [] []).bare (known0 15 (.b true)) := known0_of hEb hm fok alive rfl
  have h1b : CallOk (Env.mk Try.prog W.heap.size W [] []).bare leafO := le_ok (callX_sound hEb hm (F := F1) fok hOb) fun _ _ _ _ e => leaf_le e
  have h2b : CallOk (Env.mk Try.prog W.heap.size W [] []).bare (callX F2 []) := callX_sound hEb hm (F := F2) fok h1b
  have h3 : CallOk (Env.mk Try.prog W.heap.size W [] []) allO := or_ok (knownS_ok h2b fun f a v e => ruleK_ok e) h1
  have h5 : CallOk (Env.mk Try.prog W.heap.size W [] []) (callX F3 []) := callX_sound hE hm (F := F3) fok h3
  have h6 : CallOk (Env.mk Try.prog W.heap.size W [] []) K13 := fun f a h v h' lw lp e => by
    unfold K13 at e
    by_cases e1 : f = 28 ∨ f = 30 ∨ f = 36 ∨ f = 38 ∨ f = 15
    · rw [if_pos e1] at e; exact h5 f a h v h' lw lp e
    · rw [if_neg e1] at e
      by_cases e2 : f = 18 ∨ f = 41 ∨ f = 42
      · rw [if_pos e2] at e; exact h0 f a h v h' lw lp e
      · rw [if_neg e2] at e; cases e
  obtain ⟨-, h2⟩ := callX_sound hE hm (F := F13) fok h6 K vs [] _ _ _ _ hc
  refine Calls.mono (h2 [] W args ⟨RowKit.Below.refl _ _, rfl, by simp, fun i b r K hl => by simp [Live] at hl, fun i j b b' r K K' hl => by simp [Live] at hl⟩ hv) fun e w' hq => ?_
  obtain ⟨v', rfl, m', hvr, T⟩ := hq
  exact ⟨by rw [hvr.inv_b], T.hr.below⟩

theorem e_y0 (a b c : AVal) : evP .e (.ext 0 (.c (.tup [a, b, c]))) = some a := rfl
theorem e_y1 (a b c : AVal) : evP .e (.ext 1 (.c (.tup [a, b, c]))) = some b := rfl
theorem e_y2 (a b c : AVal) : evP .e (.ext 2 (.c (.tup [a, b, c]))) = some c := rfl
theorem i64_num' : ∀ n, n < 256 → wr .i64 (Int.ofNat n) = Int.ofNat n := by decide +kernel
theorem d15' : callX F3 [] 15 [] [] = some (.b true, [], 0, 0) := callX_ov rfl
theorem askE_of {n : Nat} {s : List UInt8} (hn : n < 256) (hl : s.length ≤ 400) (h0 : 0 < s.length) (hs : okR s) : askE n s 400 = 0 := by
  unfold askE
  rw [if_neg (by omega)]
  unfold rowE
  rw [if_neg (by omega)]
  have he : s.isEmpty = false := by
    cases s with
    | nil => simp at h0
    | cons a l => rfl
  rw [he, if_neg (by decide)]
  have hb : badR s = false := by
    refine List.any_eq_false.2 fun i hi => ?_
    unfold bad
    rcases hs i (List.mem_range.1 hi) with e | e <;> rw [e] <;> decide
  rw [hb]; rfl

theorem law13 {n y : Nat} (hn : n < 256) (hy : y < 256) (s : List UInt8) : callX F13 [] 13 [.i .u8 n, .s s, .i .u8 y] [] = some (.b true, [], 0, 0) := by
  refine g13_ok (meansX_ok F13 []) (by show K13 13 _ _ = none; unfold K13; rw [if_neg (by omega), if_neg (by omega)]) ?_
  unfold g13
  have hsym := List.all_eq_true.1 sym_tab n (List.mem_range.2 hn)
  simp only [symB, Bool.and_eq_true, Nat.blt_eq, beq_iff, beq_iff_eq] at hsym
  obtain ⟨ha, hb, haa, hbb, t1, t2, t3, t4, t5, t6⟩ := hsym
  have hperm : ∀ l c r, l < 2 → c < 2 → r < 2 → nx (mirN n) (4 * l + 2 * c + r) = nx n (4 * r + 2 * c + l) ∧ nx (excN n) (4 * (1 - l) + 2 * (1 - c) + (1 - r)) = 1 - nx n (4 * l + 2 * c + r) := fun l c r hl hc hr => by
    have := List.all_eq_true.1 (List.all_eq_true.1 (List.all_eq_true.1 t6 l (List.mem_range.2 hl)) c (List.mem_range.2 hc)) r (List.mem_range.2 hr)
    simp only [Bool.and_eq_true, beq_iff] at this
    exact this
  have ew : wr .i64 (n : Int) = (n : Int) := i64_num' n hn
  have ey : wr .i64 (y : Int) = (y : Int) := i64_num' y hy
  obtain ⟨f1, f2, f3, f4⟩ := facts hn
  obtain ⟨a1, a2, a3, a4⟩ := facts ha
  obtain ⟨b1, b2, b3, b4⟩ := facts hb
  have cp : ∀ {f : Nat} {a : List AVal} {v : AVal}, callX F13 [] f a [] = some (v, [], 0, 0) → callM (callX F13 []) ⟨[], 0, 0⟩ f a = some (v, ⟨[], 0, 0⟩) := fun e => callM_pure (call := callX F13 []) (h := []) (l := 0) (p := 0) e (Nat.le_refl _) (Nat.le_refl _)
  have m1 := cp (q3 (by omega) f1)
  have m2 := cp (q3 (by omega) f2)
  have m3 := cp (q3 (by omega) f3)
  have m4 := cp (q3 (by omega) f4)
  have n1 := cp (q3 (by omega) a1)
  have n2 := cp (q3 (by omega) a2)
  have n3 := cp (q3 (by omega) a3)
  have n4' := cp (q3 (by omega) a4)
  have o1 := cp (q3 (by omega) b1)
  have o2 := cp (q3 (by omega) b2)
  have o3 := cp (q3 (by omega) b3)
  have d15 := cp (q3 (by omega) d15')
  have r1 := cp (q1 (by omega) (Ring_ok (ro := []) (h := []) (n := n) (y := y) (s := s)))
  rw [haa] at n1
  rw [hbb] at o1
  rw [t1] at n2
  rw [t2] at n3
  rw [t3] at n4'
  rw [t4] at o2
  rw [t5] at o3
  have z0 : ((0 : Int) == 0) = true := rfl
  simp only [e_len, bindO_some, asI_i, ltI_eq, forceB_eq]
  by_cases h500 : (500 : Int) < (s.length : Int)
  · simp only [decide_eq_true h500, cond_true]
    show (bindP (callM (meansX F13 []).call ⟨[], 0, 0⟩ 15 []) _) = _
    simp only [meansX_call, d15, bindP_some, asB_b, tupA]
    exact fin_pure rfl
  · simp only [decide_eq_false h500, cond_false, forceI_eq, ew]
    show (bindP (callM (meansX F13 []).call ⟨[], 0, 0⟩ 36 [(.i .i64 n)]) _) = _
    simp only [meansX_call, m1, bindP_some, e_y0, e_y1, e_y2, bindO_some, asI_i, eqI_eq, z0, forceB_eq, Bool.not_true, cond_false, n1, o1, beq_self_eq_true, m2, e_x0, e_x1, asB_b, m3, m4, n2, n3, n4', o2, o3, forceI_eq, ey, r1, asS_s]
    cases hr : (rgE n s y == 0) with
    | false =>
      have hne : rgE n s y ≠ 0 := fun e => by rw [e] at hr; cases hr
      have hS : rgS n s y = [] := if_neg hne
      simp only [Bool.not_false, cond_true, hS, e_eq, bindO_some, asB_b, d15, bindP_some, show eqL [] [] = true from rfl, tupA]
      exact fin_pure rfl
    | true =>
      have hz : rgE n s y = 0 := by simpa using hr
      have hask : askE n s 400 = 0 := by
        by_cases e : askE n s 400 = 0
        · exact e
        · rw [rgE, if_neg e] at hz; exact hz
      obtain ⟨p1, p2, p3, p4, p5⟩ := okR_of hask
      have hyy : ¬ ((y : Int) < 0 ∨ 1000 < (y : Int)) := by omega
      have hS : rgS n s y = yrs n s y := if_pos hz
      have sl : s.length ≤ 400 := by omega
      have E2 : rgE (mirN n : Nat) (revS s) y = 0 := by rw [rgE, if_pos (askE_of ha (by rw [revS_len]; exact sl) (by rw [revS_len]; exact p4) (rev_row p5)), if_neg hyy]
      have S2 : rgS (mirN n : Nat) (revS s) y = yrs (mirN n) (revS s) y := if_pos E2
      have E3 : rgE (excN n : Nat) (othS s) y = 0 := by rw [rgE, if_pos (askE_of hb (by rw [othS_len]; exact sl) (by rw [othS_len]; exact p4) (oth_row p5)), if_neg hyy]
      have S3 : rgS (excN n : Nat) (othS s) y = yrs (excN n) (othS s) y := if_pos E3
      have c41 := cp (q1 (by omega) (rev_ok (ro := []) (h := []) (s := s) (by omega)))
      have c42 := cp (q1 (by omega) (oth_ok (ro := []) (h := []) (s := s) p5 (by omega)))
      have r2 := cp (q1 (by omega) (Ring_ok (ro := []) (h := []) (n := (mirN n : Nat)) (y := y) (s := revS s)))
      have r3 := cp (q1 (by omega) (Ring_ok (ro := []) (h := []) (n := (excN n : Nat)) (y := y) (s := othS s)))
      rw [E2, S2] at r2
      rw [E3, S3] at r3
      obtain ⟨g1, g2⟩ := yrs_spec (u := mirN n) (rev_row p5) (by rw [revS_len]; exact p4) y
      obtain ⟨g3, g4⟩ := yrs_spec (u := excN n) (oth_row p5) (by rw [othS_len]; exact p4) y
      obtain ⟨g5, g6⟩ := yrs_spec (u := n) p5 p4 y
      have c41' := cp (q1 (by omega) (rev_ok (ro := []) (h := []) (s := yrs (mirN n) (revS s) y) (by rw [g2, revS_len]; omega)))
      have c42' := cp (q1 (by omega) (oth_ok (ro := []) (h := []) (s := yrs (excN n) (othS s) y) g3 (by rw [g4, othS_len]; omega)))
      rw [rev_yrs p5 p4 (fun l c r h1 h2 h3 => (hperm l c r h1 h2 h3).1)] at c41'
      rw [oth_yrs p5 p4 (fun l c r h1 h2 h3 => (hperm l c r h1 h2 h3).2), oth_oth g5] at c42'
      have c42'' : callM (callX F13 []) ⟨[], 0, 0⟩ 42 [AVal.s (yrs (excN n) (othS s) y)] = some (.s (yrs n s y), ⟨[], 0, 0⟩) := by rw [oth_yrs p5 p4 (fun l c r h1 h2 h3 => (hperm l c r h1 h2 h3).2)]; exact c42'
      have ell : ∀ w, eqL w w = true := eqL_self
      simp only [Bool.not_true, cond_false, hS, c41, bindP_some, asS_s, r2, e_x0, e_x1, bindO_some, asI_i, c42, r3, z0, cond_true, c41', c42'', e_eq, ell, asB_b, d15, tupA]
      exact fin_pure rfl

set_option maxRecDepth 100000 in
theorem lifted13 (os : Os) (started : os.Started) (H : Type) (enc : TypeId × Value → H) :
    ReturnsInHanded {} Try.checked os 13 .any (Rows.weedMirroredSpec.pre6 enc Try.prog Try.f13 Rows.weedMirroredRow.domain false) (Rows.weedMirroredSpec.post enc Try.prog Try.f13 false true false false) := by
  refine returnsInHanded_of_change (C := Try.checked) own started (by kernel_rfl) Try.func13
    (ChangeSpec.witness6 (enc := enc) (C := Try.checked) false ⟨#[], #[.int .u8 0, .string ⟨#[]⟩, .int .u8 0], []⟩ 8 (by kernel_rfl) (by kernel_rfl) (by kernel_rfl) (by kernel_rfl)) ?_
  intro W base args ds gs before hval0 hW hcnd _
  have hval : ∀ (j : Nat) t v, Try.f13.params[j]? = some t → args[j]? = some v → Value.okWide Try.prog W .any base t v := hval0
  have hW' := hW
  obtain ⟨p, q, hA0, hV, rfl, hfz, hnd⟩ := hW
  have hA : DataW.TrodAll enc Try.prog W 0 (fun _ => true) true Try.f13.params.toList args.toList ds p := hA0
  rw [Try.params13] at hA hval
  obtain ⟨v0, vs0, d0, ds0, p0, q0, hargs, rfl, rfl, h0, r0⟩ := trodAll_cons hA
  obtain ⟨v1, vs1, d1, ds1, p1, q1', rfl, rfl, rfl, h1, r1⟩ := trodAll_cons r0
  obtain ⟨v2, vs2, d2, ds2, p2, q2, rfl, rfl, rfl, h2, r2⟩ := trodAll_cons r1
  obtain ⟨rfl, rfl, rfl⟩ := trodAll_nil r2
  obtain rfl : args = #[v0, v1, v2] := by cases args; simp_all
  obtain ⟨rfl, rfl⟩ := trodVars_none hV
  obtain ⟨n0, rfl, rfl, rfl, w0⟩ := open_int Try.underlying5 (hval 0 5 v0 rfl rfl) h0
  obtain ⟨n1, rfl, rfl, rfl, w1⟩ := ChangeMaps.open_string Try.underlying9 (hval 1 9 v1 rfl rfl) h1
  obtain ⟨n2, rfl, rfl, rfl, w2⟩ := open_int Try.underlying5 (hval 2 5 v2 rfl rfl) h2
  obtain ⟨k, rfl, hk⟩ := u8_nat w0
  obtain ⟨y, rfl, hy⟩ := u8_nat w2
  clear hA0 hval0
  have hE : (Env.mk Try.prog W.heap.size W [] []).Ok := env_ok fun i b hb => by simp at hb
  refine (call_of13 alive0 hE (vs := [.i .u8 k, .s n1.data.toList, .i .u8 y]) (args := #[.int .u8 k, .string n1, .int .u8 y]) ⟨rfl, fun i w hw => by
    match i with
    | 0 => simp at hw; subst hw; exact .i _ _
    | 1 => simp at hw; subst hw; exact .s n1.data.toList
    | 2 => simp at hw; subst hw; exact .i _ _
    | i + 3 => simp at hw⟩ (law13 hk hy n1.data.toList)).mono fun e W' ⟨he, hb⟩ => ?_
  subst he
  exact ⟨_, rfl, ⟨_, _, _, [], [], [], hW', (trodAll_cons_mk (shut_bool Try.underlying4 _) trodAll_mk0), (trodAll_cons_mk (shut_int Try.underlying5 w0) (trodAll_cons_mk (ChangeMaps.shut_string Try.underlying9 w1) (trodAll_cons_mk (shut_int Try.underlying5 w2) trodAll_mk0))), rfl, hb.frame _, fun h => by cases h⟩⟩

theorem over13 : Rows.weedMirroredRow.holds Try.pinned (OpenSpec.ofChange Rows.weedMirroredSpec) :=
  OpenClaim.holds_of_wide 13 Try.f13 rfl rfl rfl rfl rfl rfl rfl ⟨rfl, rfl, rfl, rfl, rfl⟩ rfl rfl rfl rfl rfl (by kernel_rfl) Try.func13 (by kernel_rfl)
    (of_decide_eq_true (by kernel_rfl)) (by unfold Func.isWrapper; first | (rw [if_pos (by decide +kernel)]; kernel_rfl) | (rw [if_neg (by decide +kernel)]; exact ⟨rfl, rfl⟩))
    (fun os started H enc _ => lifted13 os started H enc)

end Go.Proofs.Ytjjinlljdfaipaa.W

namespace Go.Proofs.Ytjjinlljdfaipaa
/-- the statement -/
theorem weedMirrored_holds : Rows.WeedMirroredSaid := W.over13
end Go.Proofs.Ytjjinlljdfaipaa
#print axioms Go.Proofs.Ytjjinlljdfaipaa.weedMirrored_holds

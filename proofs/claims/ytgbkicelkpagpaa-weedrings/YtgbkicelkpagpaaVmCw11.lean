/- WeedRings: for every rule and every string the law returns true, and the arguments read behind the call as they read before. No conditions. -/
import Derived.Test.YtgbkicelkpagpaaVmK0
import Derived.ChangeMaps5
open Go.Vm
set_option linter.unusedVariables false
namespace Go.Proofs.Ytgbkicelkpagpaa.W
open Go Go.RowKit Go.Deep Go.WideShapes Go.ChangeShapes Go.ChangeAt

/-- what is known of the calls of the law -/
noncomputable def K11 : Caller := fun f a h =>
  if f = 30 ∨ f = 15 then callX F3 [] f a h else if f = 18 ∨ f = 24 ∨ f = 34 then callX F1 [] f a h else if f = 32 then callX F7 [] f a h else none
noncomputable abbrev F11 : Tab := ⟨F, K11⟩
theorem q3 {f : Nat} {a : List AVal} {h : Heap} {r : AVal × Heap × Nat × Nat} (hf : f = 30 ∨ f = 15) (e : callX F3 [] f a h = some r) : callX F11 [] f a h = some r := callX_ov (by show K11 f a h = _; unfold K11; rw [if_pos hf]; exact e)
theorem q1 {f : Nat} {a : List AVal} {h : Heap} {r : AVal × Heap × Nat × Nat} (hf : f = 18 ∨ f = 24 ∨ f = 34) (e : callX F1 [] f a h = some r) : callX F11 [] f a h = some r := callX_ov (by show K11 f a h = _; unfold K11; rw [if_neg (by omega), if_pos hf]; exact e)
theorem q7 {a : List AVal} {h : Heap} {r : AVal × Heap × Nat × Nat} (e : callX F7 [] 32 a h = some r) : callX F11 [] 32 a h = some r := callX_ov (by show K11 32 a h = _; unfold K11; rw [if_neg (by omega), if_neg (by omega), if_pos rfl]; exact e)
theorem call_of11 (alive : callX ⟨F, noCall⟩ [] 15 [] [] = some (.b true, [], 0, 0)) {W : World} (hE : (Env.mk Try.prog W.heap.size W [] []).Ok) {K : Nat} {vs : List AVal} {args : Array Value}
    (hv : LR [] [] vs args) {h' : Heap} {lw lp : Nat} (hc : callX F11 [] K vs [] = some (.b true, h', lw, lp)) : Calls Try.prog K args W fun e W' => e = .returned (.bool true) ∧ RowKit.Below W.heap.size W W' := by
  have hm : (Env.mk Try.prog W.heap.size W [] []).P.follows .mixedOrders = true := Try.checked.mixed
  have hO : CallOk (Env.mk Try.prog W.heap.size W [] []) (known0 15 (.b true)) := known0_of hE hm fok alive rfl
  have h0 : CallOk (Env.mk Try.prog W.heap.size W [] []) (callX F1 []) := callX_sound hE hm (F := F1) fok hO
  have h1 : CallOk (Env.mk Try.prog W.heap.size W [] []) leafO := le_ok h0 fun _ _ _ _ e => leaf_le e
  have h1r : CallOk (Env.mk Try.prog W.heap.size W [] []) leafR := le_ok h0 fun _ _ _ _ e => leafR_le e
  have hEb := Env.bare_ok hE
  have hOb : CallOk (Env.mk Try.prog W.heap.size W [] []).bare (known0 15 (.b true)) := known0_of hEb hm fok alive rfl
  have h1b : CallOk (Env.mk Try.prog W.heap.size W [] []).bare leafO := le_ok (callX_sound hEb hm (F := F1) fok hOb) fun _ _ _ _ e => leaf_le e
  have h2b : CallOk (Env.mk Try.prog W.heap.size W [] []).bare (callX F2 []) := callX_sound hEb hm (F := F2) fok h1b
  have h3 : CallOk (Env.mk Try.prog W.heap.size W [] []) allO := or_ok (knownS_ok h2b fun f a v e => ruleK_ok e) h1
  have h4 : CallOk (Env.mk Try.prog W.heap.size W [] []) allR := or_ok h3 h1r
  have h5 : CallOk (Env.mk Try.prog W.heap.size W [] []) (callX F3 []) := callX_sound hE hm (F := F3) fok h3
  have h7 : CallOk (Env.mk Try.prog W.heap.size W [] []) (callX F7 []) := callX_sound hE hm (F := F7) fok h4
  have h6 : CallOk (Env.mk Try.prog W.heap.size W [] []) K11 := fun f a h v h' lw lp e => by
    unfold K11 at e
    by_cases e1 : f = 30 ∨ f = 15
    · rw [if_pos e1] at e; exact h5 f a h v h' lw lp e
    · rw [if_neg e1] at e
      by_cases e2 : f = 18 ∨ f = 24 ∨ f = 34
      · rw [if_pos e2] at e; exact h0 f a h v h' lw lp e
      · rw [if_neg e2] at e
        by_cases e3 : f = 32
        · rw [if_pos e3] at e; exact h7 f a h v h' lw lp e
        · rw [if_neg e3] at e; cases e
  obtain ⟨-, h2⟩ := callX_sound hE hm (F := F11) fok h6 K vs [] _ _ _ _ hc
  refine Calls.mono (h2 [] W args ⟨RowKit.Below.refl _ _, rfl, by simp, fun i b r K hl => by simp [Live] at hl, fun i j b b' r K K' hl => by simp [Live] at hl⟩ hv) fun e w' hq => ?_
  obtain ⟨v', rfl, m', hvr, T⟩ := hq
  exact ⟨by rw [hvr.inv_b], T.hr.below⟩

theorem e_y0 (a b c : AVal) : evP .e (.ext 0 (.c (.tup [a, b, c]))) = some a := rfl
theorem e_y1 (a b c : AVal) : evP .e (.ext 1 (.c (.tup [a, b, c]))) = some b := rfl
theorem e_y2 (a b c : AVal) : evP .e (.ext 2 (.c (.tup [a, b, c]))) = some c := rfl
theorem i64_num' : ∀ n, n < 256 → wr .i64 (Int.ofNat n) = Int.ofNat n := by decide +kernel
theorem d15' : callX F3 [] 15 [] [] = some (.b true, [], 0, 0) := callX_ov rfl
theorem e_geq (a b : List UInt8) : evP .e (.sbin BinOp.geq (.c (.s a)) (.c (.s b))) = some (.b (!ltL a b)) := rfl

theorem law11 {n : Nat} (hn : n < 256) (s : List UInt8) : callX F11 [] 11 [.i .u8 n, .s s] [] = some (.b true, [], 0, 0) := by
  refine g11_ok (meansX_ok F11 []) (by show K11 11 _ _ = none; unfold K11; rw [if_neg (by omega), if_neg (by omega), if_neg (by omega)]) ?_
  unfold g11
  have ew : wr .i64 (n : Int) = (n : Int) := i64_num' n hn
  have cp : ∀ {f : Nat} {a : List AVal} {v : AVal}, callX F11 [] f a [] = some (v, [], 0, 0) → callM (callX F11 []) ⟨[], 0, 0⟩ f a = some (v, ⟨[], 0, 0⟩) := fun e => callM_pure (call := callX F11 []) (h := []) (l := 0) (p := 0) e (Nat.le_refl _) (Nat.le_refl _)
  obtain ⟨-, -, f3, -⟩ := facts hn
  have m3 := cp (q3 (by omega) f3)
  have c24 := cp (q1 (by omega) (Rings_ok (ro := []) (h := []) (n := n) (s := s)))
  have c34 := cp (q1 (by omega) (Settle_ok (ro := []) (h := []) (n := n) (s := s)))
  have d15 := cp (q3 (by omega) d15')
  have z0 : ((0 : Int) == 0) = true := rfl
  have ell : ∀ w, eqL w w = true := eqL_self
  simp only [forceI_eq, ew]
  show (bindP (callM (meansX F11 []).call ⟨[], 0, 0⟩ 30 [(.i .i64 n)]) _) = _
  simp only [meansX_call, m3, bindP_some, e_x0, e_x1, bindO_some, asI_i, asB_b, c24, c34, e_y0, e_y1, e_y2, forceB_eq, eqI_eq, ltI_eq, z0, Bool.not_true, cond_false]
  cases h1 : oneT n with
  | true =>
    have c32 := cp (q7 (twins_one hn h1))
    have g1 : (shE n s == 0) = true → (rgN n s == 1) = true := fun e => by
      have e0 : shE n s = 0 := by simpa using e
      have hask : askE n s 400 = 0 := by
        unfold shE at e0
        by_cases e : askE n s 400 = 0 ∧ 50 < s.length
        · rw [if_pos e] at e0; cases e0
        · rw [if_neg e] at e0; exact e0
      obtain ⟨-, -, -, p4, p5⟩ := okR_of hask
      have e1 : rgN n s = (sumR n s 4 : Nat) := if_pos e0
      rw [e1, rings_one hn h1 p5 p4]; rfl
    have g2 : (stE n s == 0) = true → (stA n s == 0) = true := fun e => by
      have e0 : stE n s = 0 := by simpa using e
      have hask : askE n s 400 = 0 := by
        unfold stE at e0
        by_cases e : askE n s 400 = 0 ∧ 16 < s.length
        · rw [if_pos e] at e0; cases e0
        · rw [if_neg e] at e0; exact e0
      obtain ⟨-, -, -, p4, p5⟩ := okR_of hask
      have e1 : stA n s = ((setV n s).1 : Nat) := if_pos e0
      rw [e1, set_zero hn h1 p5 p4]; rfl
    have t10 : ((10 : Int) == 10) = true := rfl
    cases ha : (shE n s == 0) with
    | true =>
      have g1' := g1 ha
      cases hb : (stE n s == 0) with
      | true =>
        have g2' := g2 hb
        simp only [cond_true, cond_false, bindO_some, g1', g2', Bool.not_true, c32, bindP_some, e_y0, e_y1, e_y2, asS_s, asI_i, t10, e_eq, ell, asB_b, d15, tupA]
        exact fin_pure rfl
      | false =>
        simp only [cond_true, cond_false, bindO_some, g1', Bool.not_true, c32, bindP_some, e_y0, e_y1, e_y2, asS_s, asI_i, t10, e_eq, ell, asB_b, d15, tupA]
        exact fin_pure rfl
    | false =>
      cases hb : (stE n s == 0) with
      | true =>
        have g2' := g2 hb
        simp only [cond_true, cond_false, bindO_some, g2', Bool.not_true, c32, bindP_some, e_y0, e_y1, e_y2, asS_s, asI_i, t10, e_eq, ell, asB_b, d15, tupA]
        exact fin_pure rfl
      | false =>
        simp only [cond_true, cond_false, bindO_some, c32, bindP_some, e_y0, e_y1, e_y2, asS_s, asI_i, t10, e_eq, ell, asB_b, d15, tupA]
        exact fin_pure rfl
  | false =>
    obtain ⟨a, b, t1, ka, kb, kl, k50, k0, klt, kr, kmany⟩ := twins_not hn h1
    have c32 := cp (q7 t1)
    have aska : askE n a 400 = 0 := ask_row hn (by omega) k0 ka
    have askb : askE n b 400 = 0 := ask_row hn (by omega) (by omega) kb
    have ra := cp (q1 (by omega) (Ring_ok (ro := []) (h := []) (n := n) (y := 1) (s := a)))
    have rb := cp (q1 (by omega) (Ring_ok (ro := []) (h := []) (n := n) (y := 1) (s := b)))
    have ea : rgE n a 1 = 0 := by rw [rgE, if_pos aska]; rfl
    have eb : rgE n b 1 = 0 := by rw [rgE, if_pos askb]; rfl
    have sa : rgS n a 1 = ringS n a := if_pos ea
    have sb : rgS n b 1 = ringS n a := by rw [kr]; exact if_pos eb
    rw [ea, sa] at ra
    rw [eb, sb] at rb
    have hlen : (ringS n a).length = a.length := ringS_len k0
    have c24' := cp (q1 (by omega) (Rings_ok (ro := []) (h := []) (n := n) (s := ringS n a)))
    have e4 : shE n (ringS n a) = 0 := by
      unfold shE
      rw [if_neg (fun h => by omega), ask_row hn (by omega) (by omega) (ringS_ok k0)]
    have e5 : rgN n (ringS n a) = (sumR n (ringS n a) 4 : Nat) := if_pos e4
    rw [e4, e5] at c24'
    have kmany' : decide ((1 : Int) < ((sumR n (ringS n a) 4 : Nat) : Int)) = true := by simp only [decide_eq_true_eq]; omega
    have el : ((a.length : Int) == (b.length : Int)) = true := by rw [kl]; exact beq_self_eq_true _
    simp only [cond_false, bindO_some, c32, bindP_some, e_y0, e_y1, e_y2, asS_s, asI_i, ra, rb, e_x0, e_x1, z0, Bool.not_true, e_neq, ell, asB_b, e_len, el, e_geq, klt, c24', cond_true, kmany', d15, tupA]
    exact fin_pure rfl

set_option maxRecDepth 100000 in
theorem lifted11 (os : Os) (started : os.Started) (H : Type) (enc : TypeId × Value → H) :
    ReturnsInHanded {} Try.checked os 11 .any (Rows.weedRingsSpec.pre6 enc Try.prog Try.f11 Rows.weedRingsRow.domain false) (Rows.weedRingsSpec.post enc Try.prog Try.f11 false true false false) := by
  refine returnsInHanded_of_change (C := Try.checked) own started (by kernel_rfl) Try.func11
    (ChangeSpec.witness6 (enc := enc) (C := Try.checked) false ⟨#[], #[.int .u8 0, .string ⟨#[]⟩], []⟩ 8 (by kernel_rfl) (by kernel_rfl) (by kernel_rfl) (by kernel_rfl)) ?_
  intro W base args ds gs before hval0 hW hcnd _
  have hval : ∀ (j : Nat) t v, Try.f11.params[j]? = some t → args[j]? = some v → Value.okWide Try.prog W .any base t v := hval0
  have hW' := hW
  obtain ⟨p, q, hA0, hV, rfl, hfz, hnd⟩ := hW
  have hA : DataW.TrodAll enc Try.prog W 0 (fun _ => true) true Try.f11.params.toList args.toList ds p := hA0
  rw [Try.params11] at hA hval
  obtain ⟨v0, vs0, d0, ds0, p0, q0x, hargs, rfl, rfl, h0, r0⟩ := trodAll_cons hA
  obtain ⟨v1, vs1, d1, ds1, p1, q1x, rfl, rfl, rfl, h1, r1⟩ := trodAll_cons r0
  obtain ⟨rfl, rfl, rfl⟩ := trodAll_nil r1
  obtain rfl : args = #[v0, v1] := by cases args; simp_all
  obtain ⟨rfl, rfl⟩ := trodVars_none hV
  obtain ⟨n0, rfl, rfl, rfl, w0⟩ := open_int Try.underlying5 (hval 0 5 v0 rfl rfl) h0
  obtain ⟨n1, rfl, rfl, rfl, w1⟩ := ChangeMaps.open_string Try.underlying9 (hval 1 9 v1 rfl rfl) h1
  obtain ⟨k0, rfl, hk0⟩ := u8_nat w0
  clear hA0 hval0
  have hE : (Env.mk Try.prog W.heap.size W [] []).Ok := env_ok fun i b hb => by simp at hb
  obtain ⟨h', lw, lp, hcall⟩ := (⟨[], 0, 0, law11 hk0 n1.data.toList⟩ : ∃ h' lw lp, callX F11 [] 11 [.i .u8 k0, .s n1.data.toList] [] = some (.b true, h', lw, lp))
  refine (call_of11 alive0 hE (vs := [.i .u8 k0, .s n1.data.toList]) (args := #[.int .u8 k0, .string n1]) ⟨rfl, fun i w hw => by
    match i with
    | 0 => simp at hw; subst hw; exact .i _ _
    | 1 => simp at hw; subst hw; exact .s n1.data.toList
    | i + 2 => simp at hw⟩ hcall).mono fun e W' ⟨he, hb⟩ => ?_
  subst he
  exact ⟨_, rfl, ⟨_, _, _, [], [], [], hW', (trodAll_cons_mk (shut_bool Try.underlying4 _) trodAll_mk0), (trodAll_cons_mk (shut_int Try.underlying5 w0) (trodAll_cons_mk (ChangeMaps.shut_string Try.underlying9 w1) trodAll_mk0)), rfl, hb.frame _, fun h => by cases h⟩⟩

theorem over11 : Rows.weedRingsRow.holds Try.pinned (OpenSpec.ofChange Rows.weedRingsSpec) :=
  OpenClaim.holds_of_wide 11 Try.f11 rfl rfl rfl rfl rfl rfl rfl ⟨rfl, rfl, rfl, rfl, rfl⟩ rfl rfl rfl rfl rfl (by kernel_rfl) Try.func11 (by kernel_rfl)
    (of_decide_eq_true (by kernel_rfl)) (by unfold Func.isWrapper; first | (rw [if_pos (by decide +kernel)]; kernel_rfl) | (rw [if_neg (by decide +kernel)]; exact ⟨rfl, rfl⟩))
    (fun os started H enc _ => lifted11 os started H enc)

end Go.Proofs.Ytgbkicelkpagpaa.W

namespace Go.Proofs.Ytgbkicelkpagpaa
/-- the statement -/
theorem weedRings_holds : Rows.WeedRingsSaid := W.over11
end Go.Proofs.Ytgbkicelkpagpaa
#print axioms Go.Proofs.Ytgbkicelkpagpaa.weedRings_holds

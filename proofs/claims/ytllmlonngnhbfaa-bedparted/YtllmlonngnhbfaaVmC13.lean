/- BedParted: for every input the law returns true, and the argument reads behind the call as it read before. No conditions. -/
import Derived.Test.YtllmlonngnhbfaaVmKM1
open Go.Vm
set_option linter.unusedVariables false
namespace Go.Proofs.Ytllmlonngnhbfaa.Bed
open Go Go.RowKit Go.Deep Go.WideShapes Go.ChangeShapes Go.ChangeAt

/-- the law's own memory of what is used -/
theorem used_ok {ro : List ABlk} {a : AVal} {x : List (List Int)} (ha : ∀ y, IsMat ro y a x) (hf : fullP x) :
    ∃ b rb hp', loopX (fun s => g13_b2 (meansX F1 ro) ro a s.1 s.2.1 s.2.2) (AVal.nsl, ((0 : Int), (⟨[], 0, 0⟩ : Mm))) = some (.sl ⟨false, b, 0⟩ x.length .grow, ⟨hp', 0, 0⟩) ∧ OwnB hp' b x.length rb (fun _ _ => false) := by
  have h7 := hf.1.1.2.1
  have h1 := hf.1.1.1
  have hloop := loop_all3 (b := fun s => g13_b2 (meansX F1 ro) ro a s.1 s.2.1 s.2.2) x.length (fun r v m => ∃ (hp' : Heap) (rb : Nat → Nat), m = ⟨hp', 0, 0⟩ ∧ VecV hp' 0 48 v r (fun i => .sl ⟨false, rb i, 0⟩ x.length (.known x.length)) ∧
      (∀ i, i < r → Vec hp' 4 (rb i) x.length (fun _ => .b false)) ∧ (∀ i j, i < r → j < r → rb i = rb j → i = j)) ?_ ?_ x.length 0 .nsl ⟨[], 0, 0⟩ (by omega) ⟨[], fun _ => 0, rfl, .inl ⟨rfl, rfl⟩, fun i hi => by omega, fun i j hi => by omega⟩
  · obtain ⟨v', m', l1, hp', rb, rfl, l2, l3, l4⟩ := hloop
    rcases l2 with ⟨-, h0⟩ | ⟨b, rfl, -, -, l8⟩
    · omega
    · exact ⟨b, rb, hp', l1, l8, l3, fun r r' hr hr' => l4 r r' hr hr'⟩
  · rintro r v m hr ⟨hp1, rb, rfl, i1, i2, i3⟩
    have k1 := mk_ok (ro := ro) (hp := hp1) (l := 0) (p := 0) (e := 4) (es := 1) (bytes := 1) (v := .b false) (by omega : x.length ≤ 1000) (by omega)
    have n1 := Vec.new hp1 4 x.length (.b false)
    obtain ⟨hp2, hhp2⟩ : ∃ hp2, hp2 = hp1 ++ [some (newBlk 4 (.b false) x.length)] := ⟨_, rfl⟩
    rw [← hhp2] at k1 n1
    have k5 : ∀ i, i < hp1.length → hp2[i]? = hp1[i]? := fun i hi => by rw [hhp2, List.getElem?_append_left hi]
    have hl2 : hp2.length = hp1.length + 1 := by rw [hhp2]; simp
    have i1' : VecV hp2 0 48 v r (fun i => .sl ⟨false, rb i, 0⟩ x.length (.known x.length)) := by
      rcases i1 with h | ⟨c, h2, h3, h4, h5⟩
      · exact .inl h
      · exact .inr ⟨c, h2, h3, h4, h5.keep (k5 c h5.lt)⟩
    obtain ⟨v2, hp3, v3, hp4, b3, s1, s2, rfl, s3, s4, s5, s6⟩ := push_ok (ro := ro) (L := 0) (e := 48) (bytes := 24) (z := .nsl) (w := .sl ⟨false, hp1.length, 0⟩ x.length (.known x.length)) i1' (by omega) (by omega) (by omega) rfl rfl
    have hrow : ∀ i, i < r → rb i < hp1.length ∧ ∀ len cap, v ≠ .sl ⟨false, rb i, 0⟩ len cap := fun i hi => by
      refine ⟨(i2 i hi).lt, fun len cap he => ?_⟩
      rcases i1 with ⟨rfl, -⟩ | ⟨c, rfl, -, -, h5⟩
      · cases he
      · cases he; exact h5.ne (i2 i hi) (by decide) rfl
    have hbv : ∀ len cap, v ≠ .sl ⟨false, hp1.length, 0⟩ len cap := fun len cap he => by
      rcases i1 with ⟨rfl, -⟩ | ⟨c, rfl, -, -, h5⟩
      · cases he
      · cases he; have := h5.lt; omega
    obtain ⟨rb', q1, q2⟩ : ∃ rb' : Nat → Nat, rb' r = hp1.length ∧ ∀ i, i ≠ r → rb' i = rb i := ⟨fun i => if i = r then hp1.length else rb i, if_pos rfl, fun i h => if_neg h⟩
    refine ⟨_, _, ?_, hp4, rb', rfl, .inr ⟨b3, rfl, by omega, by omega, s4.congr fun i hi => ?_⟩, fun i hi => ?_, fun i j hi hj => ?_⟩
    · simp only [g13_b2, len_mat (ha hp1), bindO_some, asI_i, forceB_eq, ltI_eq, lt_yes hr, cond_true, k1, bindP_some, s1, s2, forceI_eq, wr_next (by omega : r ≤ 1000000)]
    · by_cases e : i < r
      · rw [if_pos e, q2 i (by omega)]
      · rw [if_neg e, (by omega : i = r), q1]
    · by_cases e : i = r
      · rw [e, q1]
        exact n1.keep (s6 _ (by omega) hbv)
      · rw [q2 i e]
        obtain ⟨h2, h3⟩ := hrow i (by omega)
        exact (i2 i (by omega)).keep (by rw [s6 _ (by omega) h3, k5 _ h2])
    · by_cases e : i = r
      · by_cases e2 : j = r
        · intro _; omega
        · rw [e, q1, q2 j e2]
          intro he
          have := (hrow j (by omega)).1
          omega
      · by_cases e2 : j = r
        · rw [e2, q1, q2 i e]
          intro he
          have := (hrow i (by omega)).1
          omega
        · rw [q2 i e, q2 j e2]
          exact i3 i j (by omega) (by omega)
  · rintro v m ⟨hp1, rb, rfl, -⟩
    simp only [g13_b2, len_mat (ha hp1), bindO_some, asI_i, forceB_eq, ltI_eq, lt_no, cond_false]

theorem law13 {ro : List ABlk} {a : AVal} {x : List (List Int)} (ha : ∀ h, IsMat ro h a x) (hx : Fits x) : ∃ h' lw lp, callX F1 ro 13 [a] [] = some (.b true, h', lw, lp) := by
  classical
  suffices h : ∃ r, g13 (meansX F1 ro) ro a ⟨[], 0, 0⟩ = some r ∧ r.1 = .b true by
    obtain ⟨⟨w, h', lw, lp⟩, h1, rfl⟩ := h
    exact ⟨h', lw, lp, g13_ok (meansX_ok F1 ro) rfl h1⟩
  have c1 := callM_pure (call := callX F1 ro) (l := 0) (p := 0) (few_ok (ha []) hx) (Nat.zero_le _) (Nat.zero_le _)
  have c2 := callM_pure (call := callX F1 ro) (l := 0) (p := 0) (Full_ok (ha [])) (Nat.zero_le _) (Nat.zero_le _)
  have halive := fun y => callM_pure (call := callX F1 ro) (h := y) (l := 0) (p := 0) alive_pure (Nat.zero_le _) (Nat.zero_le _)
  unfold g13
  by_cases hfx : few x
  · by_cases hf : fullP x
    · by_cases h5 : x.length ≤ 5
      · have h7 := hf.1.1.2.1
        obtain ⟨b, rb, hp', l1, l2⟩ := used_ok (ro := ro) ha hf
        obtain ⟨v1, y1, lw1, lp1, d1, d2⟩ := ma37 (ha hp')
        have c5 : callM (callX F1 ro) ⟨hp', 0, 0⟩ 37 [a] = some (.tup [v1, .i .i64 (mme x)], ⟨hp' ++ y1, 0, 0⟩) := (callM_eq (call := callX F1 ro) (m := ⟨hp', 0, 0⟩) d1).trans (by simp)
        have hO : OwnB (hp' ++ y1) b x.length rb (usedV x.length [] (0 * x.length)) := by
          refine (l2.keep (List.getElem?_append_left l2.top.lt) fun r hr => List.getElem?_append_left (l2.rows r hr).lt).congr fun r c _ _ => ?_
          refine (decide_eq_false ?_).symm
          rintro ⟨q, h1, -⟩
          omega
        obtain ⟨h2, lw2, e1, -, -, -⟩ := (part_main (ro := ro) ha hf (x.length * x.length)).1 0 [] (hp' ++ y1) (by simp) (Nat.zero_le _) (by simp) trivial hO
        have c6 : callM (callX F1 ro) ⟨hp' ++ y1, 0, 0⟩ 49 [a, .sl ⟨false, b, 0⟩ x.length .grow, .i .i64 0] = some (.b (dm (okP x) (x.length * x.length) []).isSome, ⟨h2, 0, 0⟩) := (callM_eq (call := callX F1 ro) (m := ⟨hp' ++ y1, 0, 0⟩) e1).trans (by simp)
        obtain ⟨f1, f2⟩ := mme_part hf h5
        have d5 : decide ((5 : Int) < (x.length : Int)) = false := by simp; omega
        have hla := len_mat (ha [])
        simp only [evP] at hla
        have bb : ∀ p : Bool, (p == p) = true := fun p => by cases p <;> rfl
        rw [← f1] at c6
        rcases f2 with f2 | f2
        · have z1 : (mme x == 0) = true := by rw [f2]; rfl
          simp only [meansX_call, meansX_loop, c1, hfx, bindP_some, asB_b, forceB_eq, decide_true, Bool.not_true, cond_false, c2, hf, bindO_some, evP, ev_ext, opd, lget, asI_i, hla, ltI_eq, d5, l1, c5, c6, eqI_eq, bb, z1, cond_true, halive, tupA]
          exact ⟨_, rfl, rfl⟩
        · have z1 : (mme x == 0) = false := by rw [f2]; rfl
          have z2 : (mme x == 10) = true := by rw [f2]; rfl
          simp only [meansX_call, meansX_loop, c1, hfx, bindP_some, asB_b, forceB_eq, decide_true, Bool.not_true, cond_false, c2, hf, bindO_some, evP, ev_ext, opd, lget, asI_i, hla, ltI_eq, d5, l1, c5, c6, eqI_eq, bb, z1, z2, cond_true, halive, tupA]
          exact ⟨_, rfl, rfl⟩
      · have d5 : decide ((5 : Int) < (x.length : Int)) = true := by simp; omega
        simp only [meansX_call, c1, hfx, bindP_some, asB_b, forceB_eq, decide_true, Bool.not_true, cond_false, c2, hf, bindO_some, len_mat (ha []), asI_i, ltI_eq, d5, cond_true, halive, tupA]
        exact ⟨_, rfl, rfl⟩
    · simp only [meansX_call, c1, hfx, bindP_some, asB_b, forceB_eq, decide_true, Bool.not_true, cond_false, c2, hf, decide_false, Bool.not_false, bindO_some, cond_true, halive, tupA]
      exact ⟨_, rfl, rfl⟩
  · simp only [meansX_call, c1, hfx, bindP_some, asB_b, forceB_eq, decide_false, Bool.not_false, cond_true, bindO_some, halive, tupA]
    exact ⟨_, rfl, rfl⟩

set_option maxRecDepth 100000 in
theorem lifted13 (os : Os) (started : os.Started) (H : Type) (enc : TypeId × Value → H) :
    ReturnsInHanded {} Try.checked os 13 .any (Rows.bedPartedSpec.pre6 enc Try.prog Try.f13 Rows.bedPartedRow.domain false) (Rows.bedPartedSpec.post enc Try.prog Try.f13 false true false false) := by
  refine returnsInHanded_of_change (C := Try.checked) own started (by kernel_rfl) Try.func13
    (ChangeSpec.witness6 (enc := enc) (C := Try.checked) false ⟨#[], #[.slice none 0 0], []⟩ 8 (by kernel_rfl) (by kernel_rfl) (by kernel_rfl) (by kernel_rfl)) ?_
  intro W base args ds gs before hval0 hW hcnd _
  have hval : ∀ (j : Nat) t v, Try.f13.params[j]? = some t → args[j]? = some v → Value.okWide Try.prog W .any base t v := hval0
  have hW' := hW
  obtain ⟨p, q, hA0, hV, rfl, hfz, hnd⟩ := hW
  have hA : DataW.TrodAll enc Try.prog W 0 (fun _ => true) true Try.f13.params.toList args.toList ds p := hA0
  rw [Try.params13] at hA hval
  obtain ⟨v0, vs0, d0, ds0, p0, q0, hargs, rfl, rfl, h0, r0⟩ := trodAll_cons hA
  obtain ⟨rfl, rfl, rfl⟩ := trodAll_nil r0
  obtain rfl : args = #[v0] := by cases args; simp_all
  obtain ⟨rfl, rfl⟩ := trodVars_none hV
  obtain ⟨x, hO⟩ := opened (okWide_slice Try.underlying22 (hval 0 22 v0 rfl rfl)) h0
  clear hA0 hval0
  have hlt : ∀ y ∈ p0, y.block < W.heap.size := fun y hy => hW'.lt y (by simpa using hy)
  obtain ⟨ro, rl, u0, u1, hE, hm0, hm1, hv0, hv1⟩ := two_of hO hO
  obtain ⟨h', lw, lp, hc⟩ := law13 hm0 hO.fits
  refine (call_of alive0 hE (vs := [u0]) (args := #[v0]) ⟨rfl, fun i w hw => by
    match i with
    | 0 => simp at hw; subst hw; exact hv0
    | i + 1 => simp at hw⟩ hc).mono fun e W' ⟨he, hb⟩ => ?_
  subst he
  exact ⟨_, rfl, ⟨_, _, _, [], p0 ++ [], [], hW', (trodAll_cons_mk (shut_bool Try.underlying4 _) trodAll_mk0), (trodAll_cons_mk (Below.trod laidOut (by kernel_rfl) (of_decide_eq_true (by kernel_rfl)) h0 hb hlt) trodAll_mk0), rfl, hb.frame _, fun h => by cases h⟩⟩

theorem over13 : Rows.bedPartedRow.holds Try.pinned (OpenSpec.ofChange Rows.bedPartedSpec) :=
  OpenClaim.holds_of_wide 13 Try.f13 rfl rfl rfl rfl rfl rfl rfl ⟨rfl, rfl, rfl, rfl, rfl⟩ rfl rfl rfl rfl rfl (by kernel_rfl) Try.func13 (by kernel_rfl)
    (of_decide_eq_true (by kernel_rfl)) (by unfold Func.isWrapper; first | (rw [if_pos (by decide +kernel)]; kernel_rfl) | (rw [if_neg (by decide +kernel)]; exact ⟨rfl, rfl⟩))
    (fun os started H enc _ => lifted13 os started H enc)

end Go.Proofs.Ytllmlonngnhbfaa.Bed

namespace Go.Proofs.Ytllmlonngnhbfaa
/-- the statement -/
theorem bedParted_holds : Rows.BedPartedSaid := Bed.over13
end Go.Proofs.Ytllmlonngnhbfaa
#print axioms Go.Proofs.Ytllmlonngnhbfaa.bedParted_holds

/- TurnRefused: for every input the law returns true, and each argument reads behind the call as it read before; the table of math/bits is tied to the text. No conditions. -/
import Derived.Test.YtpjjmdbkgkembaaDoorVmK1
import Derived.Test.YtpjjmdbkgkembaaDoorCards
import Derived.Test.YtpjjmdbkgkembaaDoorTie
import Derived.SevenTiedAt
import Derived.LaidMore
import Derived.Stop.Joined
import Derived.OpenShut
import Derived.ProofKit
open Go.Vm
set_option linter.unusedVariables false
namespace Go.Proofs.YtpjjmdbkgkembaaDoor.T
open Go Go.RowKit Go.Deep Go.WideShapes Go.ChangeShapes Go.ChangeAt

abbrev laidL : List (String × DataW Unit) := [("math/bits.deBruijn32tab", Rows.laid_math_bits_deBruijn32tab)]
theorem door_met (os : Os) (args : Array Value) : laidMetH Tryd.prog laidL ((World.doorLaid Tryd.prog 14 os).forCall (fun _ _ => 0) ⟨#[], args, []⟩).memory :=
  laidMetH_of_parts3 (fuel := 8) (laidMet_of_run' 8 (by kernel_rfl) (by kernel_rfl)) (by kernel_rfl) (by kernel_rfl)
theorem tab_of {W : World} (h : laidMetH Tryd.prog laidL W) : TabAt W := by
  rw [MakeChecks.laidMetH_plain _ _ _ (by kernel_rfl)] at h
  exact tabLaid h
set_option maxRecDepth 100000 in
theorem lifted9 (os : Os) (started : os.Started) (H : Type) (enc : TypeId × Value → H) :
    ReturnsInHanded {} Tryd.checked os 9 .any (fun w args => (Rows.turnRefusedSpec.pre enc Tryd.prog Tryd.f9 [] false w args ∧ laidMetH Tryd.prog laidL w) ∧ sizedMet enc Tryd.prog Tryd.f9 (OpenSpec.ofChange Rows.turnRefusedSpec) false w args) (Rows.turnRefusedSpec.post enc Tryd.prog Tryd.f9 false true false false) := by
  refine returnsInHanded_of_change_and (C := Tryd.checked) (X := fun w _ => laidMetH Tryd.prog laidL w) (fun _ _ _ hh h => h.of_heap hh) own started (by kernel_rfl) Tryd.func9
    (ChangeSpec.witness_shaped (enc := enc) (C := Tryd.checked) (os := os) (X := fun w _ => laidMetH Tryd.prog laidL w) false (World.doorLaid Tryd.prog 14 os) #[.int .i64 0, .int .i64 0, .slice none 0 0, .slice none 0 0] 8 rfl (World.shaped_of_RefB (by kernel_rfl) (by kernel_rfl)) (by kernel_rfl) (by kernel_rfl) (by kernel_rfl) (door_met os _)) ?_
  intro W base args ds gs before hval0 hW _ _ hL _
  have hval : ∀ (j : Nat) t v, Tryd.f9.params[j]? = some t → args[j]? = some v → Value.okWide Tryd.prog W .any base t v := hval0
  have hT := tab_of hL
  have hW' := hW
  obtain ⟨p, q, hA0, hV, rfl, hfz, hnd⟩ := hW
  have hA : DataW.TrodAll enc Tryd.prog W 0 (fun _ => true) true Tryd.f9.params.toList args.toList ds p := hA0
  rw [Tryd.params9] at hA hval
  obtain ⟨v0, vs0, d0, ds0, p0, q0x, hargs, rfl, rfl, h0, r0⟩ := trodAll_cons hA
  obtain ⟨v1, vs1, d1, ds1, p1, q1x, rfl, rfl, rfl, h1, r1⟩ := trodAll_cons r0
  obtain ⟨v2, vs2, d2, ds2, p2, q2x, rfl, rfl, rfl, h2, r2⟩ := trodAll_cons r1
  obtain ⟨v3, vs3, d3, ds3, p3, q3x, rfl, rfl, rfl, h3, r3⟩ := trodAll_cons r2
  obtain ⟨rfl, rfl, rfl⟩ := trodAll_nil r3
  obtain rfl : args = #[v0, v1, v2, v3] := by cases args; simp_all
  obtain ⟨rfl, rfl⟩ := trodVars_none hV
  obtain ⟨n0, rfl, rfl, rfl, w0⟩ := open_int Tryd.underlying3 (hval 0 3 v0 rfl rfl) h0
  obtain ⟨n1, rfl, rfl, rfl, w1⟩ := open_int Tryd.underlying3 (hval 1 3 v1 rfl rfl) h1
  obtain ⟨len2, Z2, hO2⟩ := opened_spans (okWide_slice Tryd.underlying22 (hval 2 22 v2 rfl rfl)) h2
  obtain ⟨len3, Z3, hO3⟩ := opened_ints (okWide_slice Tryd.underlying25 (hval 3 25 v3 rfl rfl)) h3
  clear hA0 hval0
  simp only [List.append_nil, List.nil_append] at hW'
  have hlt2 : ∀ y ∈ p2, y.block < W.heap.size := fun y hy => hW'.lt y (by simp [hy])
  have hlt3 : ∀ y ∈ p3, y.block < W.heap.size := fun y hy => hW'.lt y (by simp [hy])
  obtain ⟨ro2, rl2, u2, hl2, hm2, hro2⟩ := ro_of hO2 [] [] rfl
  obtain ⟨ro3, rl3, u3, hl3, hm3, hro3⟩ := ro_of hO3 (ro2) (rl2) (by simp [hl2])
  have hro_3 := ro_two (by simp [hl2]) hro2 hro3
  have hE : (Env.mk Tryd.prog W.heap.size W (ro2 ++ ro3) (rl2 ++ rl3)).Ok := env_ok fun i b hb => by
    obtain ⟨y, h1, h2⟩ := hro_3 i b hb
    refine ⟨y, h1, fun j hj => ?_⟩
    obtain ⟨h3, v', h4, h5⟩ := h2 j hj
    exact ⟨h3, v', h4, h5 _⟩
  have hf2 : IsFlat (ro2 ++ ro3) [] u2 4 len2 Z2 ∧ VR (rl2 ++ rl3) [] u2 v2 := by
    have := hm2 (ro3) (rl3) []
    simpa only [List.nil_append, List.append_nil, List.append_assoc] using this
  have hs2 := spans_of hf2.1
  have hf3 : IsFlat (ro2 ++ ro3) [] u3 1 len3 Z3 ∧ VR (rl2 ++ rl3) [] u3 v3 := by
    have := hm3 ([]) ([]) []
    simpa only [List.nil_append, List.append_nil, List.append_assoc] using this
  have hr3 := row_of hf3.1 (by
    rcases hO3.o with ⟨-, h9⟩ | ⟨a, cap, -, h9, h10, -⟩
    · exact .inl h9
    · exact .inr (by omega))
  have hx3 : ∀ x ∈ Z3.take len3, inI64 x := fun x h9 => hO3.z x (List.mem_of_mem_take h9)
  obtain ⟨h', lw, lp, hcall⟩ := law9 (t := n0) (n := n1) hs2 hr3 hx3
  refine (call_of hT hE (vs := [.i .i64 n0, .i .i64 n1, u2, u3]) (args := #[.int .i64 n0, .int .i64 n1, v2, v3]) ⟨rfl, fun i w hw => by
    match i with
    | 0 => simp at hw; subst hw; exact .i _ _
    | 1 => simp at hw; subst hw; exact .i _ _
    | 2 => simp at hw; subst hw; exact hf2.2
    | 3 => simp at hw; subst hw; exact hf3.2
    | i + 4 => simp at hw⟩ hcall).mono fun e W' ⟨he, hb⟩ => ?_
  subst he
  exact ⟨_, rfl, ⟨_, _, _, [], _, [], hW', (trodAll_cons_mk (shut_bool Tryd.underlying4 _) trodAll_mk0), (trodAll_cons_mk (shut_int Tryd.underlying3 w0) (trodAll_cons_mk (shut_int Tryd.underlying3 w1) (trodAll_cons_mk (Below.trod laidOut (by kernel_rfl) (of_decide_eq_true (by kernel_rfl)) h2 hb hlt2) (trodAll_cons_mk (Below.trod laidOut (by kernel_rfl) (of_decide_eq_true (by kernel_rfl)) h3 hb hlt3) trodAll_mk0)))), rfl, hb.frame _, fun h => by cases h⟩⟩

theorem over9 : Rows.turnRefusedRow.holds Tryd.pinned (OpenSpec.ofChange Rows.turnRefusedSpec) :=
  OpenClaim.holds_of_wide 9 Tryd.f9 rfl rfl rfl rfl rfl rfl rfl ⟨rfl, rfl, rfl, rfl, rfl⟩ rfl rfl rfl rfl rfl (by kernel_rfl) Tryd.func9 (by kernel_rfl)
    (of_decide_eq_true (by kernel_rfl)) (by unfold Func.isWrapper; first | (rw [if_pos (by decide +kernel)]; kernel_rfl) | (rw [if_neg (by decide +kernel)]; exact ⟨rfl, rfl⟩))
    (fun os started H enc _ => lifted9 os started H enc)

end Go.Proofs.YtpjjmdbkgkembaaDoor.T

namespace Go.Proofs.YtpjjmdbkgkembaaDoor
open Go
/-- the statement: the tied card -/
theorem turnRefused_holds : Rows.TurnRefusedCardSaid :=
  Claim7.holds_tied_plain_at .later [] [.data] true (true, "00253b0f1b8656e2a8b9cb369595e91f6eaf6d3c179b6300cca9defd0d0b2fe0") false
    T.over9 (fun _ h => by cases h) (by kernel_rfl) (fun _ h => by cases h) turnRefused_row_tie rfl ⟨rfl, rfl⟩ (by kernel_rfl) rfl
    (fun f fn hf hfn => by
      obtain rfl : f = 9 := Option.some.inj ((show Tryd.prog.funcNamed "dibber/dibberlaw04.TurnRefused" = some 9 by kernel_rfl).symm.trans hf) |>.symm
      obtain rfl : fn = Tryd.f9 := (Option.some.inj (Tryd.func9.symm.trans hfn)).symm
      exact ⟨by kernel_rfl, fun j t ht => by
        rw [Tryd.params9] at ht
        have hm : t ∈ [3, 22, 25] := by
          have := Array.mem_of_getElem? ht
          simp at this ⊢
          omega
        have hall : ([3, 22, 25].all fun u => !Tryd.prog.wantsStandIn u) = true := by kernel_rfl
        exact (show Tryd.prog.wantsStandIn t = false by simpa using List.all_eq_true.1 hall t hm)⟩)
    (by kernel_rfl)
end Go.Proofs.YtpjjmdbkgkembaaDoor
#print axioms Go.Proofs.YtpjjmdbkgkembaaDoor.turnRefused_holds

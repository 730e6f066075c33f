/- The program's search for transversals, with a visitor. -/
import Derived.Test.YtllmlonngnhbfaaVmK10
open Go.Vm
set_option linter.unusedVariables false
namespace Go.Proofs.Ytllmlonngnhbfaa.Bed
open Go

section
variable {ro : List ABlk} {x : List (List Int)} {vf : AVal} {bg b3 b4 b5 b6 bc : Nat} {hp : Heap} {m : Mm}
theorem ch_3 (hm : m.h = hp) (h : Ch x vf bg b3 b4 b5 b6 bc hp) : ldM ro m true 1 (.p (some ⟨false, b3, 0⟩)) = some (.p (some ⟨false, bg, 0⟩)) := by
  obtain ⟨blk, h1, h2, h3⟩ := h.c3
  rw [ld_heap hm h1 (by omega), h3]
theorem ch_4 (hm : m.h = hp) (h : Ch x vf bg b3 b4 b5 b6 bc hp) : ldM ro m true 1 (.p (some ⟨false, b4, 0⟩)) = some vf := by
  obtain ⟨blk, h1, h2, h3⟩ := h.c4
  rw [ld_heap hm h1 (by omega), h3]
theorem ch_5 (hm : m.h = hp) (h : Ch x vf bg b3 b4 b5 b6 bc hp) : ldM ro m true 1 (.p (some ⟨false, b5, 0⟩)) = some (.sl ⟨false, bc, 0⟩ x.length (.known x.length)) := by
  obtain ⟨blk, h1, h2, h3⟩ := h.c5
  rw [ld_heap hm h1 (by omega), h3]
theorem ch_6 (hm : m.h = hp) (h : Ch x vf bg b3 b4 b5 b6 bc hp) : ldM ro m true 1 (.p (some ⟨false, b6, 0⟩)) = some (.fn 92 [] [.p (some ⟨false, b3, 0⟩), .p (some ⟨false, b4, 0⟩), .p (some ⟨false, b5, 0⟩), .p (some ⟨false, b6, 0⟩)]) := by
  obtain ⟨blk, h1, h2, h3⟩ := h.c6
  rw [ld_heap hm h1 (by omega), h3]
theorem ch_n (hm : m.h = hp) (h : Ch x vf bg b3 b4 b5 b6 bc hp) : ldM ro m true 1 (.p (some ⟨false, bg, 0 + 0⟩)) = some (.i .i64 x.length) := by
  obtain ⟨blk, h1, h2, met, h3, h4⟩ := h.g
  rw [ld_heap hm h1 (by omega), h3.size]
theorem ch_g (hm : m.h = hp) (h : Ch x vf bg b3 b4 b5 b6 bc hp) (h7 : x.length ≤ 7) {r c : Nat} (hr : r < x.length) (hc : c < x.length) : ldM ro m true 1 (.p (some ⟨false, bg, 0 + 1 + r * 7 + c * 1⟩)) = some (.i .i64 (at2 x r c)) := by
  obtain ⟨blk, h1, h2, met, h3, h4⟩ := h.g
  rw [ld_heap hm h1 (by omega), Nat.zero_add, h3.crops r c (by omega) (by omega), if_pos ⟨hr, hc⟩]
end

theorem fin_b {hp : Heap} {l p L : Nat} {c : Bool} : ∃ hp', finM L (.b c) ⟨hp, l, p⟩ = some (.b c, hp', l, p) ∧ (hp' = hp ∨ (L ≤ p ∧ hp' = hp.take L)) := by
  by_cases h : L ≤ p
  · exact ⟨hp.take L, by simp [finM, gc, AVal.bel, h], .inr ⟨h, rfl⟩⟩
  · exact ⟨hp, by simp [finM, gc, h], .inl rfl⟩

theorem lget_take {hp : Heap} {i L : Nat} (h : i < L) : lget (hp.take L) i = lget hp i := by
  rw [lget_eq, lget_eq, List.getElem?_take, if_pos h]

theorem okT_iff {x : List (List Int)} {now : List Nat} {X Y c v : Nat} (hX : MaskC X now) (hY : MaskK x Y now) (hv : at2 x now.length c = v) : okT x now c ↔ X.testBit c = false ∧ Y.testBit v = false := by
  unfold okT
  rw [hv]
  constructor
  · rintro ⟨h1, h2⟩
    constructor
    · cases h : X.testBit c
      · rfl
      · exact absurd ((hX.bit c).1 h) h1
    · cases h : Y.testBit v
      · rfl
      · obtain ⟨i, h3, h4⟩ := (hY.bit v).1 h
        exact absurd h4 (h2 i h3)
  · rintro ⟨h1, h2⟩
    refine ⟨fun h => ?_, fun i hi he => ?_⟩
    · rw [(hX.bit c).2 h] at h1; cases h1
    · rw [(hY.bit v).2 ⟨i, hi, he⟩] at h2; cases h2

theorem choose_ok {ro : List ABlk} {x : List (List Int)} (hf : fullP x) (Vi : Vis ro x.length) {bg b3 b4 b5 b6 bc : Nat} (hd : ∀ i, (i = bg ∨ i = b3 ∨ i = b4 ∨ i = b5 ∨ i = b6) → i ≠ Vi.bv ∧ i ≠ bc) (hbc : bc ≠ Vi.bv) :
    ∀ (k : Nat) (now : List Nat) (hp : Heap) (s : Vi.S) (X Y : Nat), now.length + k = x.length → Ch x (.fn Vi.f [] [.p (some ⟨false, Vi.bv, 0⟩)]) bg b3 b4 b5 b6 bc hp → Cols x bc hp now → Vi.V s hp → Vi.Q s → Vi.bv < hp.length → MaskC X now → MaskK x Y now →
      ∃ hp' lw lp, callX F1 ro 92 [.i .i64 now.length, .i .u8 X, .i .u8 Y, .p (some ⟨false, b3, 0⟩), .p (some ⟨false, b4, 0⟩), .p (some ⟨false, b5, 0⟩), .p (some ⟨false, b6, 0⟩)] hp = some (.b (runV Vi.next Vi.cont s (tl x k now)).2, hp', lw, lp) ∧
        Vi.V (runV Vi.next Vi.cont s (tl x k now)).1 hp' ∧ (Vi.Q (runV Vi.next Vi.cont s (tl x k now)).1 ∨ lp ≤ Vi.bv) ∧ ((runV Vi.next Vi.cont s (tl x k now)).2 = true → Vi.Q (runV Vi.next Vi.cont s (tl x k now)).1) ∧ Keep Vi.bv bc hp hp' ∧ Cols x bc hp' now := by
  have hs := hf.1.1
  have h7 := hs.2.1
  -- the call's end
  have fin : ∀ (hp hp1 : Heap) (s' : Vi.S) (b : Bool) (now : List Nat) (l p : Nat), Vi.bv < hp.length → bc < hp.length → Vi.V s' hp1 → (Vi.Q s' ∨ p ≤ Vi.bv) → Keep Vi.bv bc hp hp1 → Cols x bc hp1 now →
      ∃ hp', finM hp.length (.b b) ⟨hp1, l, p⟩ = some (.b b, hp', l, p) ∧ Vi.V s' hp' ∧ Keep Vi.bv bc hp hp' ∧ Cols x bc hp' now := by
    intro hp hp1 s' b now l p hbv hbc hV hQ hK hC
    obtain ⟨hp', h1, h2⟩ := fin_b (hp := hp1) (l := l) (p := p) (L := hp.length) (c := b)
    refine ⟨hp', h1, ?_⟩
    rcases h2 with rfl | ⟨hle, rfl⟩
    · exact ⟨hV, hK, hC⟩
    · have hQ' : Vi.Q s' := hQ.elim id fun h => by omega
      refine ⟨Vi.keep _ _ _ hV hQ' (lget_take hbv), hK.take, ?_⟩
      obtain ⟨blk, e1, e2, e3⟩ := hC
      exact ⟨blk, by rw [lget_take hbc]; exact e1, e2, e3⟩
  have colsLt : ∀ {hp : Heap} {now : List Nat}, Cols x bc hp now → bc < hp.length := fun ⟨blk, h, _⟩ => lget_lt h
  intro k
  induction k with
  | zero =>
    intro now hp s X Y hk hCh hCo hV hQ hbv hX hY
    have hrow : IsRow ro hp (.sl ⟨false, bc, 0⟩ x.length (.known x.length)) (nts now) := by
      obtain ⟨blk, h1, h2, h3⟩ := hCo
      refine .inr ⟨_, _, blk, by rw [nts_len]; congr 1; omega, rdB_heap h1 0, by rw [nts_len]; show 0 + now.length ≤ blk.n; omega, fun j hj => ?_⟩
      rw [nts_len] at hj
      rw [nts_get, Nat.zero_add, h3 j hj]
    obtain ⟨hp1, lw, lp, hc, hV1, hQ1, hQc, hl1, hk1⟩ := Vi.visit s hp _ now hV hQ hbv hrow (by simp) (by omega)
    have hK : Keep Vi.bv bc hp hp1 := ⟨hl1, fun i hi h1 _ => hk1 i hi h1⟩
    have hC1 : Cols x bc hp1 now := by
      obtain ⟨blk, h1, h2, h3⟩ := hCo
      exact ⟨blk, by rw [lget_of (hk1 bc (lget_lt h1) hbc)]; exact h1, h2, h3⟩
    have hrun : runV Vi.next Vi.cont s (tl x 0 now) = (Vi.next s now, Vi.cont s now) := by
      simp only [tl, runV]
      cases Vi.cont s now <;> rfl
    rw [hrun]
    have hcall := callM_eq (call := callX F1 ro) (m := ⟨hp, hp.length, hp.length⟩) hc
    obtain ⟨hp', f1, f2, f3, f4⟩ := fin hp hp1 _ (Vi.cont s now) now (min hp.length lw) (min hp.length lp) hbv (colsLt hCo) hV1 (hQ1.imp id fun h => by omega) hK hC1
    refine ⟨hp', min hp.length lw, min hp.length lp, g92_ok (meansX_ok F1 ro) rfl ?_, f2, hQ1.imp id fun h => by omega, hQc, f3, f4⟩
    · unfold g92
      have e : ((now.length : Int) == (x.length : Int)) = true := by simp; omega
      simp only [ch_3 (m := ⟨hp, hp.length, hp.length⟩) rfl hCh, bindO_some, p_nilck, p_faddr, ch_n (m := ⟨hp, hp.length, hp.length⟩) rfl hCh, asI_i, forceB_eq, eqI_eq, e, cond_true, ch_4 (m := ⟨hp, hp.length, hp.length⟩) rfl hCh, ch_5 (m := ⟨hp, hp.length, hp.length⟩) rfl hCh, meansX_call, callvM, List.nil_append, List.cons_append]
      rw [hcall]
      simp only [bindP_some, asB_b, tupA]
      exact f1
  | succ k ih =>
    intro now hp s X Y hk hCh hCo hV hQ hbv hX hY
    have hr : now.length < x.length := by omega
    have wri : ∀ k : Nat, k < 7 → wr .i64 ((k : Int) + 1) = ((k + 1 : Nat) : Int) := fun k hk => by rw [wr_id' (by omega) (by omega)]; omega
    -- the loop
    have loop : ∀ (j c : Nat) (s : Vi.S) (hp1 : Heap) (l p : Nat), c + j = x.length → Keep Vi.bv bc hp hp1 → Cols x bc hp1 now → Vi.V s hp1 → Vi.Q s →
        ∃ hp2 l2 p2, loopX (fun s => g92_b0 (meansX F1 ro) ro now.length X Y (.p (some ⟨false, b3, 0⟩)) (.p (some ⟨false, b5, 0⟩)) (.p (some ⟨false, b6, 0⟩)) x.length s.1 s.2) ((c : Int), ⟨hp1, l, p⟩) =
          some (cond (runV Vi.next Vi.cont s (tlc (fun c => if okT x now c then tl x k (now ++ [c]) else []) j c)).2 (.inl ⟨hp2, l2, p2⟩) (.inr (false, ⟨hp2, l2, p2⟩))) ∧
          Vi.V (runV Vi.next Vi.cont s (tlc (fun c => if okT x now c then tl x k (now ++ [c]) else []) j c)).1 hp2 ∧ (Vi.Q (runV Vi.next Vi.cont s (tlc (fun c => if okT x now c then tl x k (now ++ [c]) else []) j c)).1 ∨ p2 ≤ Vi.bv) ∧
          ((runV Vi.next Vi.cont s (tlc (fun c => if okT x now c then tl x k (now ++ [c]) else []) j c)).2 = true → Vi.Q (runV Vi.next Vi.cont s (tlc (fun c => if okT x now c then tl x k (now ++ [c]) else []) j c)).1) ∧
          Keep Vi.bv bc hp hp2 ∧ Cols x bc hp2 now := by
      intro j
      induction j with
      | zero =>
        intro c s hp1 l p hc hK hC hV hQ
        refine ⟨hp1, l, p, ?_, hV, .inl hQ, fun _ => hQ, hK, hC⟩
        refine loopX_out ?_
        have : c = x.length := by omega
        subst this
        simp only [g92_b0, forceB_eq, ltI_eq]
        simp [runV, tlc]
      | succ j ihj =>
        intro c s hp1 l p hc hK hC hV hQ
        have hcl : c < x.length := by omega
        have hCh1 := hCh.keep hK hd
        obtain ⟨v, hv⟩ : ∃ v : Nat, at2 x now.length c = (v : Int) := ⟨(at2 x now.length c).toNat, by have := hf.2 now.length c hr hcl; omega⟩
        have hvn : v < x.length := by
          have := (hs.2.2 now.length hr).2 c hcl
          unfold at2 at hv
          omega
        have e : decide ((c : Int) < (x.length : Int)) = true := by simp; omega
        have hc0 : (!decide ((c : Int) < Int.ofNat 0)) = true := by simp
        have hv0 : (!decide ((v : Int) < Int.ofNat 0)) = true := by simp
        have hg := ch_g (ro := ro) (m := ⟨hp1, l, p⟩) rfl hCh1 h7 hr hcl
        rw [hv] at hg
        have hok := okT_iff hX hY hv
        have a1 := and_pow hX.lt (by omega : c ≤ 7)
        have a2 := and_pow hY.lt (by omega : v ≤ 7)
        rw [eqI_eq] at a1 a2
        by_cases ho : okT x now c
        · obtain ⟨o1, o2⟩ := hok.1 ho
          rw [o1] at a1
          rw [o2] at a2
          -- the column is laid
          obtain ⟨blk, c1, c2, c3⟩ := hC
          have hst := st_heap (ro := ro) (l := l) (p := p) c1 (by omega : 0 + now.length < blk.n) (v := .i .i64 (c : Int)) rfl rfl rfl
          rw [Nat.zero_add] at hst
          obtain ⟨hp2, hhp2⟩ : ∃ hp2, hp2 = hp1.set bc (some { blk with c := blk.c.set now.length (.i .i64 (c : Int)) }) := ⟨_, rfl⟩
          rw [← hhp2] at hst
          have k2 : Keep Vi.bv bc hp1 hp2 := ⟨by rw [hhp2]; simp, fun i hi h1 h2 => by rw [hhp2, List.getElem?_set_ne (fun h => h2 h.symm)]⟩
          have hCh2 := hCh1.keep k2 hd
          have hC2 : Cols x bc hp2 (now ++ [c]) := by
            refine ⟨{ blk with c := blk.c.set now.length (.i .i64 (c : Int)) }, by rw [hhp2]; exact lget_set c1 _, c2, fun i hi => ?_⟩
            simp only [get_set]
            by_cases e : now.length = i
            · rw [if_pos e, ← e, getD_app']
            · rw [if_neg e, getD_app (by simp at hi; omega)]
              exact c3 i (by simp at hi; omega)
          have hV2 : Vi.V s hp2 := Vi.keep _ _ _ hV hQ (by rw [hhp2, lget_eq, lget_eq, List.getElem?_set_ne hbc])
          have hbv2 : Vi.bv < hp2.length := Nat.lt_of_lt_of_le hbv (Nat.le_trans hK.1 k2.1)
          obtain ⟨hp3, lw3, lp3, d1, d2, d3, d4, d5, d6⟩ := ih (now ++ [c]) hp2 s (X ||| 2 ^ c) (Y ||| 2 ^ v) (by simp; omega) hCh2 hC2 hV2 hQ hbv2 (hX.add (by omega)) (hY.add hv (by omega))
          have hlen : (((now ++ [c]).length : Nat) : Int) = ((now.length + 1 : Nat) : Int) := by simp
          rw [hlen] at d1
          have hcall := callM_eq (call := callX F1 ro) (m := ⟨hp2, min l bc, p⟩) d1
          have hC3 : Cols x bc hp3 now := by
            obtain ⟨blk3, e1, e2, e3⟩ := d6
            exact ⟨blk3, e1, e2, fun i hi => by rw [e3 i (by simp; omega), getD_app hi]⟩
          have hK3 : Keep Vi.bv bc hp hp3 := hK.trans (k2.trans d5)
          have hrunf : runV Vi.next Vi.cont s (tlc (fun c => if okT x now c then tl x k (now ++ [c]) else []) (j + 1) c) = cond (runV Vi.next Vi.cont s (tl x k (now ++ [c]))).2 (runV Vi.next Vi.cont (runV Vi.next Vi.cont s (tl x k (now ++ [c]))).1 (tlc (fun c => if okT x now c then tl x k (now ++ [c]) else []) j (c + 1))) (runV Vi.next Vi.cont s (tl x k (now ++ [c]))) := by
            simp only [tlc]
            rw [if_pos ho, runV_app]
          rw [hrunf]
          have hbody : ∀ b : Bool, (runV Vi.next Vi.cont s (tl x k (now ++ [c]))).2 = b → g92_b0 (meansX F1 ro) ro now.length X Y (.p (some ⟨false, b3, 0⟩)) (.p (some ⟨false, b5, 0⟩)) (.p (some ⟨false, b6, 0⟩)) x.length (c : Int) ⟨hp1, l, p⟩ =
              some (cond b (.inl (((c + 1 : Nat) : Int), ⟨hp3, min (min l bc) lw3, min p lp3⟩)) (.inr (.inr (false, ⟨hp3, min (min l bc) lw3, min p lp3⟩)))) := by
            intro b hb
            rw [hb] at hcall
            simp only [g92_b0, forceB_eq, ltI_eq, e, cond_true, hc0, chk_true, shl_one (by omega : c ≤ 7), forceI_eq, ch_3 (m := ⟨hp1, l, p⟩) rfl hCh1, bindO_some, p_nilck, p_faddr, p_ixA rfl (by omega : now.length < 7), p_ixA rfl (by omega : c < 7), hg, asI_i, hv0, shl_one (by omega : v ≤ 7), eqI_eq, a1, a2,
              Bool.not_false, Bool.not_true, cond_false, ch_5 (m := ⟨hp1, l, p⟩) rfl hCh1, ixS_eq hr, Nat.zero_add, hst, bindP_some, ch_6 (m := ⟨hp2, min l bc, p⟩) rfl hCh2, wri now.length (by omega), bit_or hX.lt (pow_lt (by omega : c ≤ 7)), bit_or hY.lt (pow_lt (by omega : v ≤ 7)), meansX_call, callvM, List.nil_append, List.cons_append]
            rw [hcall]
            cases b
            · simp only [bindP_some, asB_b, Bool.not_false, cond_true, bindO_some, cond_false]
            · simp only [bindP_some, asB_b, Bool.not_true, cond_false, bindO_some, cond_true, wri c (by omega)]
          cases hb : (runV Vi.next Vi.cont s (tl x k (now ++ [c]))).2 with
          | false =>
            simp only [cond_false]
            refine ⟨hp3, min (min l bc) lw3, min p lp3, ?_, d2, d3.imp id fun h => by omega, d4, hK3, hC3⟩
            rw [hb]
            exact loopX_out (hbody false hb)
          | true =>
            simp only [cond_true]
            have hQ3 := d4 hb
            obtain ⟨hp4, l4, p4, f1, f2, f3, f4, f5, f6⟩ := ihj (c + 1) _ hp3 (min (min l bc) lw3) (min p lp3) (by omega) hK3 hC3 d2 hQ3
            exact ⟨hp4, l4, p4, loopX_on (hbody true hb) f1, f2, f3, f4, f5, f6⟩
        · -- the column is taken, or the crop
          have hrunf : runV Vi.next Vi.cont s (tlc (fun c => if okT x now c then tl x k (now ++ [c]) else []) (j + 1) c) = runV Vi.next Vi.cont s (tlc (fun c => if okT x now c then tl x k (now ++ [c]) else []) j (c + 1)) := by
            simp only [tlc]
            rw [if_neg ho, List.nil_append]
          rw [hrunf]
          obtain ⟨hp4, l4, p4, f1, f2⟩ := ihj (c + 1) s hp1 l p (by omega) hK hC hV hQ
          refine ⟨hp4, l4, p4, loopX_on (s' := (((c + 1 : Nat) : Int), ⟨hp1, l, p⟩)) ?_ f1, f2⟩
          simp only [g92_b0, forceB_eq, ltI_eq, e, cond_true, hc0, chk_true, shl_one (by omega : c ≤ 7), forceI_eq, ch_3 (m := ⟨hp1, l, p⟩) rfl hCh1, bindO_some, p_nilck, p_faddr, p_ixA rfl (by omega : now.length < 7), p_ixA rfl (by omega : c < 7), hg, asI_i, hv0, shl_one (by omega : v ≤ 7), eqI_eq, a1, a2]
          cases h1 : X.testBit c with
          | true =>
            simp only [Bool.not_true, Bool.not_false, cond_true, bindO_some, wri c (by omega)]
          | false =>
            cases h2 : Y.testBit v with
            | true =>
              simp only [Bool.not_true, Bool.not_false, cond_true, cond_false, bindO_some, wri c (by omega)]
            | false => exact absurd (hok.2 ⟨h1, h2⟩) ho
    obtain ⟨hp2, l2, p2, f1, f2, f3, f4, f5, f6⟩ := loop x.length 0 s hp hp.length hp.length (by omega) (Keep.refl _ _ _) hCo hV hQ
    have hrunf : tl x (k + 1) now = tlc (fun c => if okT x now c then tl x k (now ++ [c]) else []) x.length 0 := rfl
    rw [hrunf]
    obtain ⟨hp', q1, q2, q3, q4⟩ := fin hp hp2 _ (runV Vi.next Vi.cont s (tlc (fun c => if okT x now c then tl x k (now ++ [c]) else []) x.length 0)).2 now l2 p2 hbv (colsLt hCo) f2 f3 f5 f6
    refine ⟨hp', l2, p2, g92_ok (meansX_ok F1 ro) rfl ?_, q2, f3, f4, q3, q4⟩
    unfold g92
    have e : ((now.length : Int) == (x.length : Int)) = false := by simp; omega
    have e0 : ((0 : Nat) : Int) = 0 := rfl
    rw [e0] at f1
    simp only [ch_3 (m := ⟨hp, hp.length, hp.length⟩) rfl hCh, bindO_some, p_nilck, p_faddr, ch_n (m := ⟨hp, hp.length, hp.length⟩) rfl hCh, asI_i, forceB_eq, eqI_eq, e, cond_false, meansX_loop]
    rw [f1]
    cases hb : (runV Vi.next Vi.cont s (tlc (fun c => if okT x now c then tl x k (now ++ [c]) else []) x.length 0)).2 with
    | false =>
      rw [hb] at q1
      simp only [cond_false, bindO_some, tupA]
      exact q1
    | true =>
      rw [hb] at q1
      simp only [cond_true, bindO_some, tupA]
      exact q1
end Go.Proofs.Ytllmlonngnhbfaa.Bed

/- Package tweak's Show undoes Hide, and Hide Show, and the length stays: the statement TweakBack. No condition. -/
import Derived.Test.YtklnnmlegagfoaaSameC
namespace Go.Proofs.Ytklnnmlegagfoaa.tweakBack
open Go.ChangeShapes Go.WideShapes Go.ChangeAt Go.RowKit
set_option linter.unusedVariables false

theorem own : ownKnob Try.prog.godebug = none := by kernel_rfl
attribute [local irreducible] encK rkS twF numK wB txtW twk

set_option maxRecDepth 100000 in
set_option maxHeartbeats 4000000 in
theorem walk (p : Option Addr) (n cap : Nat) (g : Nat → Nat) (z : Int) (q : Option Addr) (tn tcap : Nat) (G : Nat → Nat) (hg : ∀ i, i < n → g i < 256) (hcap : n ≤ cap) (hmax : cap ≤ maxLen) (hz : (Lit.int .i64 z).wf = true) (hG : ∀ i, i < tn → G i < 256) (htcap : tn ≤ tcap) (htmax : tcap ≤ maxLen) (w : World) (hp : BytesAt w p n g) (hq : BytesAt w q tn G) :
    Calls Try.prog 8 #[.slice p n cap, .int .i64 z, .slice q tn tcap] w fun e w' => e = .returned (.bool true) ∧ Below w.heap.size w w' := by
  have AL := Lib.hid (alive_any w)
  by_cases hk : n ≠ 32 ∧ n ≠ 64
  · have t1 : ((n : Int) != 32) = true := by simp; omega
    have t2 : ((n : Int) != 64) = true := by simp; omega
    go_enter Try.func8, Try.ntmps8
    go_wp2_with (first
      | (go_at_call 16; refine AL.out.mono ?_; rintro e w1 ⟨rfl, hb1⟩))
    go_ret
    exact ⟨rfl, hb1⟩
  · obtain ⟨N, hN, hnN⟩ : ∃ N, (N = 4 ∨ N = 8) ∧ n = 8 * N := by
      rcases (show n = 32 ∨ n = 64 by omega) with h | h
      · exact ⟨4, .inl rfl, h⟩
      · exact ⟨8, .inr rfl, h⟩
    rcases (show (((n : Int) != 32) = false) ∨ (((n : Int) != 32) = true ∧ ((n : Int) != 64) = false) by simp; omega) with t1 | ⟨t1, t2⟩
    all_goals
      by_cases hs : tn < 16
      · have d1 : decide ((tn : Int) < 16) = true := by simp; omega
        have d1b : decide (tn < 16) = true := by simp; omega
        clear hN hnN hk
        go_enter Try.func8, Try.ntmps8
        go_wp2_with (first
          | (go_at_call 16; refine AL.out.mono ?_; rintro e w1 ⟨rfl, hb1⟩))
        go_ret
        exact ⟨rfl, hb1⟩
      · have d1 : decide ((tn : Int) < 16) = false := by simp; omega
        have d1b : decide (tn < 16) = false := by simp; omega
        by_cases hl : 2000 < tn
        · have d2 : decide ((2000 : Int) < (tn : Int)) = true := by simp; omega
          have d3 : decide (2000 < tn) = true := by simp; omega
          clear hN hnN hk
          go_enter Try.func8, Try.ntmps8
          go_wp2_with (first
            | (go_at_call 16; refine AL.out.mono ?_; rintro e w1 ⟨rfl, hb1⟩))
          go_ret
          exact ⟨rfl, hb1⟩
        · have d2 : decide ((2000 : Int) < (tn : Int)) = false := by simp; omega
          have d3 : decide (2000 < tn) = false := by simp; omega
          have ht1 : 16 ≤ tn := by omega
          have ht2 : tn ≤ 65536 := by omega
          have kt : IsKey (twF N (fun j => g (n / 2 + j)) z) := twF_key z (fun i hi => hg _ (by omega))
          have hr : ∀ i, i < N + 7 → IsKey (rkS N g i) := fun i _ => rkS_key (fun i hi => hg i (by omega)) i
          have hX := txtW_lt (b := false) hr kt hG ht1
          have hY := txtW_lt (b := true) hr kt hG ht1
          have BX := Lib.hid (txt_back (b := false) hr kt hG ht1)
          have BY := Lib.hid (txt_back (b := true) hr kt hG ht1)
          have H1 := Lib.hid (fun (W : World) (h1 : BytesAt W p n g) (h2 : BytesAt W q tn G) => Hide_ok p n cap N g z q tn tcap G hnN hN hcap hg ht1 ht2 hG W h1 h2)
          have S1 := Lib.hid (fun (W : World) (h1 : BytesAt W p n g) (h2 : BytesAt W q tn G) => Show_ok p n cap N g z q tn tcap G hnN hN hcap hg ht1 ht2 hG W h1 h2)
          have S2 := Lib.hid (fun (D : Nat) (W : World) (h1 : BytesAt W p n g) (h2 : BytesAt W (some ⟨D, 0, none⟩) tn _) => Show_ok p n cap N g z (some ⟨D, 0, none⟩) tn tn _ hnN hN hcap hg ht1 ht2 hX W h1 h2)
          have H2 := Lib.hid (fun (D : Nat) (W : World) (h1 : BytesAt W p n g) (h2 : BytesAt W (some ⟨D, 0, none⟩) tn _) => Hide_ok p n cap N g z (some ⟨D, 0, none⟩) tn tn _ hnN hN hcap hg ht1 ht2 hY W h1 h2)
          have HP := Lib.hid hp
          have HQ := Lib.hid hq
          clear hN hnN hg hG hX hY kt hr hp hq hk hs hl ht1 ht2
          generalize twF N (fun j => g (n / 2 + j)) z = t at *
          generalize rkS N g = R at *
          generalize N + 7 = T at *
          simp only [Bool.not_false, Bool.not_true] at BX BY
          generalize txtW false R T t tn G = X at *
          generalize txtW true R T t tn G = Y at *
          go_enter Try.func8, Try.ntmps8
          go_wp2_with (first
            | (go_at_call 16; refine AL.out.mono ?_; rintro e w1 ⟨rfl, hb1⟩
               have B1 := Lib.hid hb1; have P1 := Lib.hid (HP.out.below hb1); have Q1 := Lib.hid (HQ.out.below hb1)
               clear hb1 HP HQ AL)
            | (go_at_call 24; refine (H1.out w1 P1.out Q1.out).mono ?_; rintro e w2 ⟨D, rfl, hr, _, hb⟩
               have B2 := Lib.hid (B1.out.trans (hb.mono B1.out.size)); have P2 := Lib.hid (P1.out.below hb); have Q2 := Lib.hid (Q1.out.below hb); have X2 := Lib.hid hr.bytesAt
               clear hr hb B1 P1 Q1 H1)
            | (go_at_call 29; refine (S1.out w2 P2.out Q2.out).mono ?_; rintro e w3 ⟨E, rfl, hr, _, hb⟩
               have B3 := Lib.hid (B2.out.trans (hb.mono B2.out.size)); have P3 := Lib.hid (P2.out.below hb); have Q3 := Lib.hid (Q2.out.below hb); have X3 := Lib.hid (X2.out.below hb); have Y3 := Lib.hid hr.bytesAt
               clear hr hb B2 P2 Q2 X2 S1)
            | (go_at_call 29; refine (S2.out D w3 P3.out X3.out).mono ?_; rintro e w4 ⟨A, rfl, hr, _, hb⟩
               have B4 := Lib.hid (B3.out.trans (hb.mono B3.out.size)); have P4 := Lib.hid (P3.out.below hb); have Q4 := Lib.hid (Q3.out.below hb); have Y4 := Lib.hid (Y3.out.below hb); have A4 := Lib.hid hr.bytesAt
               clear hr hb B3 P3 Q3 X3 Y3 S2)
            | (go_at_call 24; refine (H2.out E w4 P4.out Y4.out).mono ?_; rintro e w5 ⟨B, rfl, hr, _, hb⟩
               have B5 := Lib.hid (B4.out.trans (hb.mono B4.out.size)); have Q5 := Lib.hid (Q4.out.below hb); have A5 := Lib.hid (A4.out.below hb); have C5 := Lib.hid hr.bytesAt
               clear hr hb B4 P4 Q4 Y4 A4 H2)
            | (go_at_call 26; refine (Same_true (some ⟨A, 0, none⟩) tn tn q tcap _ G BX.out w5 A5.out Q5.out).mono ?_; rintro e w6 ⟨rfl, rfl⟩; clear A5)
            | (go_at_call 26; refine (Same_true (some ⟨B, 0, none⟩) tn tn q tcap _ G BY.out w5 C5.out Q5.out).mono ?_; rintro e w7 ⟨rfl, rfl⟩; clear C5))
          go_ret
          exact ⟨rfl, B5.out⟩

theorem laidOut : laidOutB Try.prog = true := by kernel_rfl
set_option maxRecDepth 100000 in
theorem lifted (os : Os) (started : os.Started) (H : Type) (enc : TypeId × Value → H) :
    ReturnsInHanded {} Try.checked os 8 .any (Rows.tweakBackSpec.pre6 enc Try.prog Try.f8 Rows.tweakBackRow.domain false) (Rows.tweakBackSpec.post enc Try.prog Try.f8 false true false false) := by
  refine returnsInHanded_of_change (C := Try.checked) own started (by kernel_rfl) Try.func8
    (ChangeSpec.witness6 (enc := enc) (C := Try.checked) false ⟨#[], #[.slice none 0 0, .int .i64 0, .slice none 0 0], []⟩ 8 (by kernel_rfl) (by kernel_rfl) (by kernel_rfl) (by kernel_rfl)) ?_
  intro W base args ds gs before hval0 hW hcnd _
  have hval : ∀ (j : Nat) t v, Try.f8.params[j]? = some t → args[j]? = some v → Value.okWide Try.prog W .any base t v := hval0
  have hW' := hW
  obtain ⟨p, q, hA0, hV, rfl, hfz, hnd⟩ := hW
  have hA : DataW.TrodAll enc Try.prog W 0 (fun _ => true) true Try.f8.params.toList args.toList ds p := hA0
  rw [Try.params8] at hA hval
  obtain ⟨v0, vs0, d0, ds0, p0, q0, hargs, rfl, rfl, h0, r0⟩ := trodAll_cons hA
  obtain ⟨v1, vs1, d1, ds1, p1, q1, rfl, rfl, rfl, h1, r1⟩ := trodAll_cons r0
  obtain ⟨v2, vs2, d2, ds2, p2, q2, rfl, rfl, rfl, h2, r2⟩ := trodAll_cons r1
  obtain ⟨rfl, rfl, rfl⟩ := trodAll_nil r2
  obtain rfl : args = #[v0, v1, v2] := by cases args; simp_all
  obtain ⟨rfl, rfl⟩ := trodVars_none hV
  have k0 := h0
  have lt0 : ∀ x ∈ p0, x.block < W.heap.size := by obtain ⟨m, hm⟩ := k0; exact DataW.trod_lt m _ _ _ hm
  obtain ⟨q0, n0, c0, a0, rfl, w0, y0, l0, m0⟩ := open_byteslice (hval 0 22 v0 rfl rfl) h0
  obtain ⟨a1, rfl, rfl, rfl, w1⟩ := open_int Try.underlying3 (hval 1 3 v1 rfl rfl) h1
  have k2 := h2
  have lt2 : ∀ x ∈ p2, x.block < W.heap.size := by obtain ⟨m, hm⟩ := k2; exact DataW.trod_lt m _ _ _ hm
  obtain ⟨q2, n2, c2, a2, rfl, w2, y2, l2, m2⟩ := open_byteslice (hval 2 22 v2 rfl rfl) h2
  clear hA0 hval0
  refine (walk q0 n0 c0 a0 a1 q2 n2 c2 a2 w0 l0 m0 w1 w2 l2 m2 W y0 y2).mono fun e W' ⟨he, bel⟩ => ?_
  subst he
  exact ⟨_, rfl, _, _, _, [], _, [], hW', trodAll_mk1 (shut_bool Try.underlying4 _), (trodAll_cons_mk (Below.trod laidOut (by kernel_rfl) (of_decide_eq_true (by kernel_rfl)) k0 bel lt0) (trodAll_cons_mk (shut_int Try.underlying3 w1) (trodAll_cons_mk (Below.trod laidOut (by kernel_rfl) (of_decide_eq_true (by kernel_rfl)) k2 bel lt2) trodAll_mk0))), rfl, bel.frame _, fun h => by cases h⟩

theorem over : Rows.tweakBackRow.holds Try.pinned (OpenSpec.ofChange Rows.tweakBackSpec) :=
  OpenClaim.holds_of_wide 8 Try.f8 rfl rfl rfl rfl rfl rfl rfl ⟨rfl, rfl, rfl, rfl, rfl⟩ rfl rfl rfl rfl rfl (by kernel_rfl) Try.func8 (by kernel_rfl)
    (of_decide_eq_true (by kernel_rfl)) (by unfold Func.isWrapper; first | (rw [if_pos (by decide +kernel)]; kernel_rfl) | (rw [if_neg (by decide +kernel)]; exact ⟨rfl, rfl⟩))
    (fun os started H enc _ => lifted os started H enc)

theorem proved : Rows.TweakBackSaid := over
end Go.Proofs.Ytklnnmlegagfoaa.tweakBack

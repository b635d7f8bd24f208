/- Every text is shown by package tweak to what is hidden to it, as new memory, and nothing that came in is changed: the statement TweakShows. No condition. -/
import Derived.Test.YtklnnmlegagfoaaHideL
namespace Go.Proofs.Ytklnnmlegagfoaa.tweakShows
open Go.ChangeShapes Go.WideShapes Go.ChangeAt Go.RowKit
set_option linter.unusedVariables false

theorem own : ownKnob Try.prog.godebug = none := by kernel_rfl
attribute [local irreducible] encK rkS twF numK wB txtW twk markF

set_option maxRecDepth 100000 in
set_option maxHeartbeats 4000000 in
theorem walk (p : Option Addr) (n cap : Nat) (g : Nat → Nat) (z : Int) (q : Option Addr) (tn tcap : Nat) (G : Nat → Nat) (hg : ∀ i, i < n → g i < 256) (hcap : n ≤ cap) (hsn : n ≤ 140737488351232) (hz : (Lit.int .i64 z).wf = true) (hG : ∀ i, i < tn → G i < 256) (htcap : tn ≤ tcap) (hst : tn ≤ 140737488351232) (w : World) (hp : BytesAt w p n g) (hq : BytesAt w q tn G) :
    Calls Try.prog 7 #[.slice p n cap, .int .i64 z, .slice q tn tcap] w fun e w' => e = .returned (.bool true) ∧ Below w.heap.size w w' := by
  have AL := Lib.hid (alive_any w)
  by_cases hbig : 4096 < n
  · have d1 : decide ((4096 : Int) < (n : Int)) = true := by simp; omega
    have d2 : decide (4096 < n) = true := by simp; omega
    go_enter Try.func7, Try.ntmps7
    go_wp2_with (first
      | (go_at_call 16; refine AL.out.mono ?_; rintro e w1 ⟨rfl, hb1⟩))
    go_ret
    exact ⟨rfl, hb1⟩
  · have d1 : decide ((4096 : Int) < (n : Int)) = false := by simp; omega
    have d2 : decide (4096 < n) = false := by simp; omega
    by_cases hlg : 600 < tn ∧ tn ≤ 65536
    · have LY := Lib.hid (fun W => large_yes q tn tcap hlg.1 hlg.2 W)
      clear hlg hbig
      go_enter Try.func7, Try.ntmps7
      go_wp2_with (first
        | (go_at_call 16; refine AL.out.mono ?_; rintro e w1 ⟨rfl, hb1⟩)
        | (go_at_call 23; refine (LY.out _).mono ?_; rintro e w2 ⟨rfl, rfl⟩; clear LY))
      go_ret
      exact ⟨rfl, hb1⟩
    · have LN := Lib.hid (fun W => large_no q tn tcap (by omega) W)
      have HP := Lib.hid hp; have HQ := Lib.hid hq
      have HSN := Lib.hid hsn; have HST := Lib.hid hst
      by_cases hok : (n = 32 ∨ n = 64) ∧ 16 ≤ tn ∧ tn ≤ 600
      · obtain ⟨N, hN, hnN⟩ : ∃ N, (N = 4 ∨ N = 8) ∧ n = 8 * N := by
          rcases hok.1 with h | h
          · exact ⟨4, .inl rfl, h⟩
          · exact ⟨8, .inr rfl, h⟩
        have mlow : ∀ i, i < n → markF n g i = g i := fun i hi => markF_low n g hi
        have mlowt : ∀ i, i < tn → markF tn G i = G i := fun i hi => markF_low tn G hi
        have kt : IsKey (twF N (fun j => g (n / 2 + j)) z) := twF_key z (fun i hi => hg _ (by omega))
        have hr : ∀ i, i < N + 7 → IsKey (rkS N g i) := fun i _ => rkS_key (fun i hi => hg i (by omega)) i
        obtain ⟨X, HC, RC, RC2⟩ : ∃ (X : Nat → Nat),
            (∀ (Dc : Nat) (W : World), BytesAt W p n g → BytesAt W (some ⟨Dc, 0, none⟩) tn G → Calls Try.prog 29 #[.slice p n cap, .int .i64 z, .slice (some ⟨Dc, 0, none⟩) tn (tn + 2)] W fun e w' => ∃ D, e = .returned (.tuple #[.slice (some ⟨D, 0, none⟩) tn tn, .nilIface]) ∧ IntBlk w' D .u8 5 (mk tn X) ∧ W.heap.size ≤ D ∧ Below W.heap.size W w') ∧
            (∀ (W : World), BytesAt W p n g → BytesAt W q tn G → Calls Try.prog 25 #[.slice p n cap, .int .i64 z, .slice q tn tcap] W fun e w' => ∃ q' c, e = .returned (.tuple #[.slice q' tn c, .int .i64 0]) ∧ Below W.heap.size W w') ∧
            (∀ (D : Nat) (W : World), BytesAt W p n g → BytesAt W (some ⟨D, 0, none⟩) tn X → Calls Try.prog 25 #[.slice p n cap, .int .i64 z, .slice (some ⟨D, 0, none⟩) tn tn] W fun e w' => ∃ q' c, e = .returned (.tuple #[.slice q' tn c, .int .i64 0]) ∧ BytesAt w' q' tn G ∧ Below W.heap.size W w') :=
          ⟨_, fun Dc W h1 h2 => Show_ok p n cap N g z (some ⟨Dc, 0, none⟩) tn (tn + 2) G hnN hN hcap hg hok.2.1 (by omega) hG W h1 h2,
            fun W h1 h2 => (refHide_ok p n cap N g z q tn tcap G hnN hN hcap hg hok.2.1 (by omega) hG W h1 h2).mono fun e w' ⟨q', c, he, _, _, _, hb⟩ => ⟨q', c, he, hb⟩,
            fun D W h1 h2 => (refHide_ok p n cap N g z (some ⟨D, 0, none⟩) tn tn _ hnN hN hcap hg hok.2.1 (by omega) (txtW_lt (b := true) hr kt hG hok.2.1) W h1 h2).mono fun e w' ⟨q', c, he, hy, _, _, hb⟩ =>
              ⟨q', c, he, hy.congr (fun j hj => by have := txt_back (b := true) hr kt hG hok.2.1 j hj; simp only [Bool.not_true] at this; exact this), hb⟩⟩
        have RCD := Lib.hid RC2
        have HCC := Lib.hid HC; have RCC := Lib.hid RC
        clear HC RC RC2 hN hnN hg hG hok hlg hbig hp hq hz hsn hst mlow mlowt kt hr
        go_enter Try.func7, Try.ntmps7
        go_wp2_with (first
          | (go_at_call 16; refine AL.out.mono ?_; rintro e w1 ⟨rfl, hb1⟩
             have B1 := Lib.hid hb1; have P1 := Lib.hid (HP.out.below hb1); have Q1 := Lib.hid (HQ.out.below hb1)
             clear hb1 HP HQ AL)
          | (go_at_call 23; refine (LN.out _).mono ?_; rintro e w1' ⟨rfl, rfl⟩; clear LN)
          | (go_at_call 11; refine (Copy_row q tn tcap G HST.out w1 Q1.out).mono ?_; rintro e w3 ⟨rfl, hr, hb⟩
             have C3 := Lib.hid hr; have B3 := Lib.hid (B1.out.trans (hb.mono B1.out.size)); have P3 := Lib.hid (P1.out.below hb); have Q3 := Lib.hid (Q1.out.below hb)
             clear hr hb P1 Q1)
          | (go_at_call 29; refine (HCC.out w1.heap.size w3 P3.out (C3.out.bytesAt.low rfl)).mono ?_; rintro e w4 ⟨D, rfl, hr, hD, hb⟩
             have X4 := Lib.hid hr; have C4 := Lib.hid (C3.out.below hb C3.out.lt); have B4 := Lib.hid (B3.out.trans (hb.mono B3.out.size)); have P4 := Lib.hid (P3.out.below hb); have Q4 := Lib.hid (Q3.out.below hb)
             have D4 := Lib.hid (Nat.lt_of_lt_of_le C3.out.lt hD)
             clear hr hD hb C3 P3 Q3 HCC)
          | (go_at_call 25; refine (RCC.out w4 P4.out Q4.out).mono ?_; rintro e w5 ⟨q', c, rfl, hb⟩
             have X5 := Lib.hid (X4.out.below hb X4.out.lt); have C5 := Lib.hid (C4.out.below hb C4.out.lt); have B5 := Lib.hid (B4.out.trans (hb.mono B4.out.size)); have P5 := Lib.hid (P4.out.below hb); have Q5 := Lib.hid (Q4.out.below hb)
             clear hb C4 P4 Q4 X4 RCC)
          | (go_at_call 27; refine (Num_nil _).mono ?_; rintro e w7 ⟨rfl, rfl⟩)
          | (go_at_call 14; refine (Kept_row q tn tcap w1.heap.size G HST.out w5 Q5.out C5.out).mono ?_; rintro e w9 ⟨rfl, rfl⟩)
          | (go_at_call 25; refine (RCD.out D w5 P5.out X5.out.bytesAt).mono ?_; rintro e w6 ⟨q2, c2, rfl, hr, hb⟩
             have Y6 := Lib.hid hr; have X6 := Lib.hid (X5.out.below hb X5.out.lt); have C6 := Lib.hid (C5.out.below hb C5.out.lt); have B6 := Lib.hid (B5.out.trans (hb.mono B5.out.size)); have Q6 := Lib.hid (Q5.out.below hb)
             clear hr hb C5 P5 Q5 X5 RCD)
          | (go_at_call 26; refine (Same_true q2 tn c2 q tcap _ _ (fun _ _ => rfl) w6 Y6.out Q6.out).mono ?_; rintro e w7 ⟨rfl, rfl⟩; clear Y6 Q6)
          | (refine wpList_lists2 rfl _ _ rfl _ _ _ _ _ _ rfl rfl ?_
             have a6 : Below w6.heap.size w6 (w6.alloc (.cells #[.slice (some ⟨D, 0, none⟩) tn tn, .slice (some ⟨w1.heap.size, 0, none⟩) tn (tn + 2)] 22)) := (Below.refl _ _).alloc (Nat.le_refl _) _
             have h6 := heap_alloc_new w6 (.cells #[.slice (some ⟨D, 0, none⟩) tn tn, .slice (some ⟨w1.heap.size, 0, none⟩) tn (tn + 2)] 22)
             have B7 := Lib.hid (B6.out.trans (a6.mono B6.out.size))
             have A7 := Lib.hid (Apart_two tn D w1.heap.size tn _ _ w.heap.size w6.heap.size _ (by have := D4.out; omega) HST.out HST.out (X6.out.below a6 X6.out.lt) (C6.out.below a6 C6.out.lt) (by have := D4.out; have := B1.out.size; omega) B1.out.size B7.out.size h6)
             clear a6 h6)
          | (go_at_call 28; refine A7.out.mono ?_; rintro e w8 ⟨rfl, hb⟩
             have B8 := Lib.hid (B7.out.trans hb); clear hb A7))
        go_ret
        exact ⟨rfl, B8.out⟩
      · obtain ⟨E, ⟨hE0, hE1⟩, HC, RC⟩ : ∃ E : Int, ((E == 0) = false ∧ (E != 0) = true) ∧
            (∀ (Dc : Nat) (W : World), BytesAt W p n g → Calls Try.prog 29 #[.slice p n cap, .int .i64 z, .slice (some ⟨Dc, 0, none⟩) tn (tn + 2)] W fun e w' => e = .returned (.tuple #[.slice none 0 0, .iface 34 (.int .i64 E)]) ∧ Below W.heap.size W w') ∧
            (∀ (W : World), Calls Try.prog 25 #[.slice p n cap, .int .i64 z, .slice q tn tcap] W fun e w' => e = .returned (.tuple #[.slice none 0 0, .int .i64 E]) ∧ W = w') := by
          by_cases hk : n = 32 ∨ n = 64
          · obtain ⟨N, hN, hnN⟩ : ∃ N, (N = 4 ∨ N = 8) ∧ n = 8 * N := by
              rcases hk with h | h
              · exact ⟨4, .inl rfl, h⟩
              · exact ⟨8, .inr rfl, h⟩
            exact ⟨2, ⟨rfl, rfl⟩, fun Dc W h1 => Show_form p n cap N g z (some ⟨Dc, 0, none⟩) tn (tn + 2) hnN hN hcap hg (by omega) W h1, fun W => refHide_form p n cap z q tn tcap hk (by omega) W⟩
          · exact ⟨3, ⟨rfl, rfl⟩, fun Dc W h1 => Show_key p n cap g z (some ⟨Dc, 0, none⟩) tn (tn + 2) (by omega) hcap (by omega) (by omega) hg W h1, fun W => refHide_key p n cap z q tn tcap (by omega) (by omega) W⟩
        have HCC := Lib.hid HC; have RCC := Lib.hid RC
        clear HC RC hg hG hok hlg hbig hp hq hz hsn hst
        go_enter Try.func7, Try.ntmps7
        go_wp2_with (first
          | (go_at_call 16; refine AL.out.mono ?_; rintro e w1 ⟨rfl, hb1⟩
             have B1 := Lib.hid hb1; have P1 := Lib.hid (HP.out.below hb1); have Q1 := Lib.hid (HQ.out.below hb1)
             clear hb1 HP HQ AL)
          | (go_at_call 23; refine (LN.out _).mono ?_; rintro e w1' ⟨rfl, rfl⟩; clear LN)
          | (go_at_call 11; refine (Copy_row q tn tcap G HST.out w1 Q1.out).mono ?_; rintro e w3 ⟨rfl, hr, hb⟩
             have C3 := Lib.hid hr; have B3 := Lib.hid (B1.out.trans (hb.mono B1.out.size)); have P3 := Lib.hid (P1.out.below hb); have Q3 := Lib.hid (Q1.out.below hb)
             clear hr hb P1 Q1)
          | (go_at_call 29; refine (HCC.out w1.heap.size w3 P3.out).mono ?_; rintro e w4 ⟨rfl, hb⟩
             have C4 := Lib.hid (C3.out.below hb C3.out.lt); have B4 := Lib.hid (B3.out.trans (hb.mono B3.out.size)); have Q4 := Lib.hid (Q3.out.below hb)
             clear hb C3 P3 Q3 HCC)
          | (go_at_call 25; refine (RCC.out w4).mono ?_; rintro e w5 ⟨rfl, rfl⟩; clear RCC)
          | (go_at_call 27; refine (Num_err E hE0 _).mono ?_; rintro e w7 ⟨rfl, rfl⟩)
          | (go_at_call 14; refine (Kept_row q tn tcap w1.heap.size G HST.out w4 Q4.out C4.out).mono ?_; rintro e w9 ⟨rfl, rfl⟩; clear Q4))
        go_ret
        exact ⟨rfl, B4.out⟩

theorem laidOut : laidOutB Try.prog = true := by kernel_rfl
set_option maxRecDepth 100000 in
theorem lifted (os : Os) (started : os.Started) (H : Type) (enc : TypeId × Value → H) :
    ReturnsInHanded {} Try.checked os 7 .any (Rows.tweakShowsSpec.pre6 enc Try.prog Try.f7 Rows.tweakShowsRow.domain false) (Rows.tweakShowsSpec.post enc Try.prog Try.f7 false true false false) := by
  refine returnsInHanded_of_change_sized (C := Try.checked) own started (by kernel_rfl) Try.func7
    (ChangeSpec.witness6 (enc := enc) (C := Try.checked) false ⟨#[], #[.slice none 0 0, .int .i64 0, .slice none 0 0], []⟩ 8 (by kernel_rfl) (by kernel_rfl) (by kernel_rfl) (by kernel_rfl)) ?_
  intro W base args ds gs before hval0 hW hcnd hsz _
  have hval : ∀ (j : Nat) t v, Try.f7.params[j]? = some t → args[j]? = some v → Value.okWide Try.prog W .any base t v := hval0
  have hW' := hW
  obtain ⟨p, q, hA0, hV, rfl, hfz, hnd⟩ := hW
  have hA : DataW.TrodAll enc Try.prog W 0 (fun _ => true) true Try.f7.params.toList args.toList ds p := hA0
  rw [Try.params7] at hA hval
  obtain ⟨v0, vs0, d0, ds0, p0, q0, hargs, rfl, rfl, h0, r0⟩ := trodAll_cons hA
  obtain ⟨v1, vs1, d1, ds1, p1, q1, rfl, rfl, rfl, h1, r1⟩ := trodAll_cons r0
  obtain ⟨v2, vs2, d2, ds2, p2, q2, rfl, rfl, rfl, h2, r2⟩ := trodAll_cons r1
  obtain ⟨rfl, rfl, rfl⟩ := trodAll_nil r2
  obtain rfl : args = #[v0, v1, v2] := by cases args; simp_all
  obtain ⟨rfl, rfl⟩ := trodVars_none hV
  have k0 := h0
  have lt0 : ∀ x ∈ p0, x.block < W.heap.size := by obtain ⟨m, hm⟩ := k0; exact DataW.trod_lt m _ _ _ hm
  obtain ⟨q0, n0, c0, a0, rfl, w0, y0, l0, m0⟩ := open_byteslice (hval 0 22 v0 rfl rfl) h0
  obtain ⟨a1, rfl, rfl, rfl, w1⟩ := open_int Try.underlying3 (hval 1 3 v1 rfl rfl) h1
  have k2 := h2
  have lt2 : ∀ x ∈ p2, x.block < W.heap.size := by obtain ⟨m, hm⟩ := k2; exact DataW.trod_lt m _ _ _ hm
  obtain ⟨q2, n2, c2, a2, rfl, w2, y2, l2, m2⟩ := open_byteslice (hval 2 22 v2 rfl rfl) h2
  have z0 := open_size k0 hsz (j := 0) (by rw [Try.params7]; rfl) rfl
  have z2 := open_size k2 hsz (j := 2) (by rw [Try.params7]; rfl) rfl
  clear hA0 hval0
  refine (walk q0 n0 c0 a0 a1 q2 n2 c2 a2 w0 l0 z0 w1 w2 l2 z2 W y0 y2).mono fun e W' ⟨he, bel⟩ => ?_
  subst he
  exact ⟨_, rfl, _, _, _, [], _, [], hW', trodAll_mk1 (shut_bool Try.underlying4 _), (trodAll_cons_mk (Below.trod laidOut (by kernel_rfl) (of_decide_eq_true (by kernel_rfl)) k0 bel lt0) (trodAll_cons_mk (shut_int Try.underlying3 w1) (trodAll_cons_mk (Below.trod laidOut (by kernel_rfl) (of_decide_eq_true (by kernel_rfl)) k2 bel lt2) trodAll_mk0))), rfl, bel.frame _, fun h => by cases h⟩

theorem over : Rows.tweakShowsRow.holds Try.pinned (OpenSpec.ofChange Rows.tweakShowsSpec) :=
  OpenClaim.holds_of_wide 7 Try.f7 rfl rfl rfl rfl rfl rfl rfl ⟨rfl, rfl, rfl, rfl, rfl⟩ rfl rfl rfl rfl rfl (by kernel_rfl) Try.func7 (by kernel_rfl)
    (of_decide_eq_true (by kernel_rfl)) (by unfold Func.isWrapper; first | (rw [if_pos (by decide +kernel)]; kernel_rfl) | (rw [if_neg (by decide +kernel)]; exact ⟨rfl, rfl⟩))
    (fun os started H enc _ => lifted os started H enc)

theorem proved : Rows.TweakShowsSaid := over
end Go.Proofs.Ytklnnmlegagfoaa.tweakShows

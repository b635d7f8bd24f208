/- Every text comes back from what the document wraps it to: the statement WrapBack. No condition. -/
import Derived.Test.YtleoljdhaeoepaaWrAlive
namespace Go.Proofs.Ytleoljdhaeoepaa.wrapBack
open Go.ChangeShapes Go.WideShapes Go.ChangeAt Go.RowKit
set_option linter.unusedVariables false

theorem own : ownKnob Try.prog.godebug = none := by kernel_rfl
attribute [local irreducible] wrpN unwN rkS

set_option maxRecDepth 100000 in
set_option maxHeartbeats 4000000 in
theorem walk (p : Option Addr) (n cap : Nat) (g : Nat → Nat) (q : Option Addr) (tn tcap : Nat) (G : Nat → Nat) (hg : ∀ i, i < n → g i < 256) (hcap : n ≤ cap) (hsn : n ≤ 140737488351232) (hG : ∀ i, i < tn → G i < 256) (htcap : tn ≤ tcap) (hst : tn ≤ 140737488351232) (w : World) (hp : BytesAt w p n g) (hq : BytesAt w q tn G) :
    Calls Try.prog 5 #[.slice p n cap, .slice q tn tcap] w fun e w' => e = .returned (.bool true) ∧ Below w.heap.size w w' := by
  have AL := Lib.hid (alive_any w)
  have HP := Lib.hid hp; have HQ := Lib.hid hq
  by_cases hok : (n = 16 ∨ n = 32) ∧ tn % 8 = 0 ∧ 16 ≤ tn ∧ tn ≤ 512
  · obtain ⟨N, hN, hnN⟩ : ∃ N, (N = 4 ∨ N = 8) ∧ n = 4 * N := by
      rcases hok.1 with h | h
      · exact ⟨4, .inl rfl, h⟩
      · exact ⟨8, .inr rfl, h⟩
    obtain ⟨m, hm⟩ : ∃ m, tn = 8 * m := ⟨tn / 8, by omega⟩
    have d1 : decide ((4096 : Int) < (n : Int)) = false := by simp; omega
    have d2 : decide (4096 < n) = false := by simp; omega
    have hR : ∀ i, i < N + 7 → IsKey (rkS N g i) := fun i _ => rkS_key (fun i hi => hg i (by omega)) i
    have hGr : IsRow (8 * m) G := fun j hj => hG j (by omega)
    have RC := Lib.hid (fun (W : World) (h1 : BytesAt W p n g) (h2 : BytesAt W q tn G) => refWrap_ok p n cap N g q tn tcap m G hnN hN hg hm (by omega) (by omega) hG W h1 h2)
    have UC := Lib.hid (fun (q' : Option Addr) (c : Nat) (hc : tn + 8 ≤ c) (W : World) (h1 : BytesAt W p n g) (h2 : BytesAt W q' (tn + 8) (wrpN (rkS N g) (N + 7) m G)) =>
      Unwrap_back p n cap N g q' tn c m G hnN hN hcap hg hm (by omega) (by omega) hc hG W h1 h2)
    clear hok hnN hN hm hg hG hGr hR hp hq hsn hst hcap htcap
    generalize wrpN (rkS N g) (N + 7) m G = F at *
    go_enter Try.func5, Try.ntmps5
    go_wp2_with (first
      | (go_at_call 15; refine AL.out.mono ?_; rintro e w1 ⟨rfl, hb1⟩
         have B1 := Lib.hid hb1; have P1 := Lib.hid (HP.out.below hb1); have Q1 := Lib.hid (HQ.out.below hb1)
         clear hb1 HP HQ AL)
      | (go_at_call 10; refine (RC.out w1 P1.out Q1.out).mono ?_; rintro e w2 ⟨q', c, rfl, hr, hc, _, hb⟩
         have F2 := Lib.hid hr; have B2 := Lib.hid (B1.out.trans (hb.mono B1.out.size)); have P2 := Lib.hid (P1.out.below hb); have Q2 := Lib.hid (Q1.out.below hb)
         have UC2 := Lib.hid (UC.out q' c hc w2 P2.out F2.out)
         clear hr hb hc RC UC B1 P1 Q1)
      | (go_at_call 16; refine UC2.out.mono ?_; rintro e w3 ⟨D, rfl, hr, hb⟩
         have X3 := Lib.hid hr; have B3 := Lib.hid (B2.out.trans (hb.mono B2.out.size)); have Q3 := Lib.hid (Q2.out.below hb)
         clear hr hb UC2 B2 P2 Q2 F2)
      | (go_at_call 11; refine (Same_true (some ⟨D, 0, none⟩) tn tn q tcap _ _ (fun _ _ => rfl) w3 X3.out.bytesAt Q3.out).mono ?_; rintro e w4 ⟨rfl, rfl⟩; clear X3 Q3))
    go_ret
    exact ⟨rfl, B3.out⟩
  · obtain ⟨E, hE, RC⟩ : ∃ E : Int, ((E != 0) = true) ∧ ∀ (W : World), BytesAt W p n g → Calls Try.prog 10 #[.slice p n cap, .slice q tn tcap] W fun e w' => e = .returned (.tuple #[.slice none 0 0, .int .i64 E]) ∧ Below W.heap.size W w' := by
      by_cases hk : n = 16 ∨ n = 32
      · obtain ⟨N, hN, hnN⟩ : ∃ N, (N = 4 ∨ N = 8) ∧ n = 4 * N := by
          rcases hk with h | h
          · exact ⟨4, .inl rfl, h⟩
          · exact ⟨8, .inr rfl, h⟩
        exact ⟨2, rfl, fun W h1 => refWrap_form p n cap N g q tn tcap hnN hN hg (by omega) W h1⟩
      · exact ⟨3, rfl, fun W _ => (refWrap_key p n cap q tn tcap (by omega) (by omega) W).mono fun e w' ⟨he, hw⟩ => ⟨he, by rw [← hw]; exact Below.refl _ _⟩⟩
    have RCC := Lib.hid RC
    clear RC hok hg hG hp hq hsn hst hcap htcap
    go_enter Try.func5, Try.ntmps5
    go_wp2_with (first
      | (go_at_call 15; refine AL.out.mono ?_; rintro e w1 ⟨rfl, hb1⟩
         have B1 := Lib.hid hb1; have P1 := Lib.hid (HP.out.below hb1)
         clear hb1 HP HQ AL)
      | (go_at_call 10; refine (RCC.out w1 P1.out).mono ?_; rintro e w2 ⟨rfl, hb⟩
         have B2 := Lib.hid (B1.out.trans (hb.mono B1.out.size))
         clear hb RCC B1 P1))
    go_ret
    exact ⟨rfl, B2.out⟩

theorem laidOut : laidOutB Try.prog = true := by kernel_rfl
set_option maxRecDepth 100000 in
theorem lifted (os : Os) (started : os.Started) (H : Type) (enc : TypeId × Value → H) :
    ReturnsInHanded {} Try.checked os 5 .any (Rows.wrapBackSpec.pre6 enc Try.prog Try.f5 Rows.wrapBackRow.domain false) (Rows.wrapBackSpec.post enc Try.prog Try.f5 false true false false) := by
  refine returnsInHanded_of_change_sized (C := Try.checked) own started (by kernel_rfl) Try.func5
    (ChangeSpec.witness6 (enc := enc) (C := Try.checked) false ⟨#[], #[.slice none 0 0, .slice none 0 0], []⟩ 8 (by kernel_rfl) (by kernel_rfl) (by kernel_rfl) (by kernel_rfl)) ?_
  intro W base args ds gs before hval0 hW hcnd hsz _
  have hval : ∀ (j : Nat) t v, Try.f5.params[j]? = some t → args[j]? = some v → Value.okWide Try.prog W .any base t v := hval0
  have hW' := hW
  obtain ⟨p, q, hA0, hV, rfl, hfz, hnd⟩ := hW
  have hA : DataW.TrodAll enc Try.prog W 0 (fun _ => true) true Try.f5.params.toList args.toList ds p := hA0
  rw [Try.params5] at hA hval
  obtain ⟨v0, vs0, d0, ds0, p0, q0, hargs, rfl, rfl, h0, r0⟩ := trodAll_cons hA
  obtain ⟨v1, vs1, d1, ds1, p1, q1, rfl, rfl, rfl, h1, r1⟩ := trodAll_cons r0
  obtain ⟨rfl, rfl, rfl⟩ := trodAll_nil r1
  obtain rfl : args = #[v0, v1] := by cases args; simp_all
  obtain ⟨rfl, rfl⟩ := trodVars_none hV
  have k0 := h0
  have lt0 : ∀ x ∈ p0, x.block < W.heap.size := by obtain ⟨m, hm⟩ := k0; exact DataW.trod_lt m _ _ _ hm
  obtain ⟨q0, n0, c0, a0, rfl, w0, y0, l0, m0⟩ := open_byteslice (hval 0 22 v0 rfl rfl) h0
  have k1 := h1
  have lt1 : ∀ x ∈ p1, x.block < W.heap.size := by obtain ⟨m, hm⟩ := k1; exact DataW.trod_lt m _ _ _ hm
  obtain ⟨q1, n1, c1, a1, rfl, w1, y1, l1, m1⟩ := open_byteslice (hval 1 22 v1 rfl rfl) h1
  have z0 := open_size k0 hsz (j := 0) (by rw [Try.params5]; rfl) rfl
  have z1 := open_size k1 hsz (j := 1) (by rw [Try.params5]; rfl) rfl
  clear hA0 hval0
  refine (walk q0 n0 c0 a0 q1 n1 c1 a1 w0 l0 z0 w1 l1 z1 W y0 y1).mono fun e W' ⟨he, bel⟩ => ?_
  subst he
  exact ⟨_, rfl, _, _, _, [], _, [], hW', trodAll_mk1 (shut_bool Try.underlying4 _), (trodAll_cons_mk (Below.trod laidOut (by kernel_rfl) (of_decide_eq_true (by kernel_rfl)) k0 bel lt0) (trodAll_cons_mk (Below.trod laidOut (by kernel_rfl) (of_decide_eq_true (by kernel_rfl)) k1 bel lt1) trodAll_mk0)), rfl, bel.frame _, fun h => by cases h⟩

theorem over : Rows.wrapBackRow.holds Try.pinned (OpenSpec.ofChange Rows.wrapBackSpec) :=
  OpenClaim.holds_of_wide 5 Try.f5 rfl rfl rfl rfl rfl rfl rfl ⟨rfl, rfl, rfl, rfl, rfl⟩ rfl rfl rfl rfl rfl (by kernel_rfl) Try.func5 (by kernel_rfl)
    (of_decide_eq_true (by kernel_rfl)) (by unfold Func.isWrapper; first | (rw [if_pos (by decide +kernel)]; kernel_rfl) | (rw [if_neg (by decide +kernel)]; exact ⟨rfl, rfl⟩))
    (fun os started H enc _ => lifted os started H enc)

theorem proved : Rows.WrapBackSaid := over
end Go.Proofs.Ytleoljdhaeoepaa.wrapBack

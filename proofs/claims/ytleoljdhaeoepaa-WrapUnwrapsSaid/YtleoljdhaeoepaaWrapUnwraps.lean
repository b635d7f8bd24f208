/- Just those texts are unwrapped that something is wrapped to, as new memory, and nothing that came in is changed: the statement WrapUnwraps. No condition. -/
import Derived.Test.YtleoljdhaeoepaaWrAlive
namespace Go.Proofs.Ytleoljdhaeoepaa.wrapUnwraps
open Go.ChangeShapes Go.WideShapes Go.ChangeAt Go.RowKit
set_option linter.unusedVariables false

theorem own : ownKnob Try.prog.godebug = none := by kernel_rfl
attribute [local irreducible] wrpN unwN rkS markF

set_option maxRecDepth 100000 in
set_option maxHeartbeats 4000000 in
theorem walk (p : Option Addr) (n cap : Nat) (g : Nat → Nat) (q : Option Addr) (tn tcap : Nat) (G : Nat → Nat) (hg : ∀ i, i < n → g i < 256) (hcap : n ≤ cap) (hsn : n ≤ 140737488351232) (hG : ∀ i, i < tn → G i < 256) (htcap : tn ≤ tcap) (hst : tn ≤ 140737488351232) (w : World) (hp : BytesAt w p n g) (hq : BytesAt w q tn G) :
    Calls Try.prog 4 #[.slice p n cap, .slice q tn tcap] w fun e w' => e = .returned (.bool true) ∧ Below w.heap.size w w' := by
  have AL := Lib.hid (alive_any w)
  have HP := Lib.hid hp; have HQ := Lib.hid hq; have HST := Lib.hid hst
  by_cases hbig : 4096 < n
  · have d1 : decide ((4096 : Int) < (n : Int)) = true := by simp; omega
    have d2 : decide (4096 < n) = true := by simp; omega
    clear hbig
    go_enter Try.func4, Try.ntmps4
    go_wp2_with (first
      | (go_at_call 15; refine AL.out.mono ?_; rintro e w1 ⟨rfl, hb1⟩))
    go_ret
    exact ⟨rfl, hb1⟩
  have d1 : decide ((4096 : Int) < (n : Int)) = false := by simp; omega
  have d2 : decide (4096 < n) = false := by simp; omega
  by_cases hbigt : 4096 < tn
  · have d3 : decide ((4096 : Int) < (tn : Int)) = true := by simp; omega
    have d4 : decide (4096 < tn) = true := by simp; omega
    clear hbig hbigt
    go_enter Try.func4, Try.ntmps4
    go_wp2_with (first
      | (go_at_call 15; refine AL.out.mono ?_; rintro e w1 ⟨rfl, hb1⟩))
    go_ret
    exact ⟨rfl, hb1⟩
  have d3 : decide ((4096 : Int) < (tn : Int)) = false := by simp; omega
  have d4 : decide (4096 < tn) = false := by simp; omega
  have mlowt : ∀ i, i < tn → markF tn G i = G i := fun i hi => markF_low tn G hi
  -- either it is unwrapped, and what comes out is wrapped to it; or it is refused by a number
  obtain ⟨F, UC⟩ : ∃ F : Nat → Nat,
      (∃ m, tn = 8 * m + 8 ∧ (∀ (Dc : Nat) (W : World), BytesAt W p n g → BytesAt W (some ⟨Dc, 0, none⟩) tn G → Calls Try.prog 16 #[.slice p n cap, .slice (some ⟨Dc, 0, none⟩) tn (tn + 2)] W fun e w' => ∃ D, e = .returned (.tuple #[.slice (some ⟨D, 0, none⟩) (8 * m) (8 * m), .nilIface]) ∧ IntBlk w' D .u8 5 (mk (8 * m) F) ∧ Below W.heap.size W w') ∧
        (∀ (D : Nat) (W : World), BytesAt W p n g → BytesAt W (some ⟨D, 0, none⟩) (8 * m) F → Calls Try.prog 10 #[.slice p n cap, .slice (some ⟨D, 0, none⟩) (8 * m) (8 * m)] W fun e w' => ∃ q' c, e = .returned (.tuple #[.slice q' tn c, .int .i64 0]) ∧ BytesAt w' q' tn G ∧ Below W.heap.size W w')) ∨
      (∃ E : Int, (E = 4 ∧ (n = 16 ∨ n = 32) ∧ tn % 8 = 0 ∧ 24 ≤ tn ∧ tn ≤ 520 ∨ E = 2 ∧ (n = 16 ∨ n = 32) ∧ (tn % 8 ≠ 0 ∨ tn < 24 ∨ 520 < tn) ∨ E = 3 ∧ n ≠ 16 ∧ n ≠ 32) ∧
        (∀ (Dc : Nat) (W : World), BytesAt W p n g → BytesAt W (some ⟨Dc, 0, none⟩) tn G → Calls Try.prog 16 #[.slice p n cap, .slice (some ⟨Dc, 0, none⟩) tn (tn + 2)] W fun e w' => e = .returned (.tuple #[.slice none 0 0, .iface 36 (.int .i64 E)]) ∧ Below W.heap.size W w')) := by
    by_cases hk : n = 16 ∨ n = 32
    · obtain ⟨N, hN, hnN⟩ : ∃ N, (N = 4 ∨ N = 8) ∧ n = 4 * N := by
        rcases hk with h | h
        · exact ⟨4, .inl rfl, h⟩
        · exact ⟨8, .inr rfl, h⟩
      by_cases hf : tn % 8 = 0 ∧ 24 ≤ tn ∧ tn ≤ 520
      · obtain ⟨m, hm⟩ : ∃ m, tn = 8 * m + 8 := ⟨tn / 8 - 1, by omega⟩
        have hR : ∀ i, i < N + 7 → IsKey (rkS N g i) := fun i _ => rkS_key (fun i hi => hg i (by omega)) i
        have hGr : IsRow (8 * m + 8) G := fun j hj => hG j (by omega)
        cases hs : sure (unwN (rkS N g) (N + 7) m G)
        · refine ⟨G, .inr ⟨4, .inl ⟨rfl, hk, hf⟩, fun Dc W h1 h2 => ?_⟩⟩
          exact (Unwrap_run p n cap N g _ tn (tn + 2) m G hnN hN hcap hg hm (by omega) (by omega) (by omega) hG W h1 h2).mono fun e w' ⟨hb, _, h⟩ => ⟨h hs, hb⟩
        · refine ⟨txt (unwN (rkS N g) (N + 7) m G), .inl ⟨m, hm, fun Dc W h1 h2 => ?_, fun D W h1 h2 => ?_⟩⟩
          · refine (Unwrap_run p n cap N g _ tn (tn + 2) m G hnN hN hcap hg hm (by omega) (by omega) (by omega) hG W h1 h2).mono fun e w' ⟨hb, h, _⟩ => ?_
            obtain ⟨D, he, hr, _⟩ := h hs
            exact ⟨D, he, hr, hb⟩
          · refine (refWrap_ok p n cap N g _ (8 * m) (8 * m) m (txt (unwN (rkS N g) (N + 7) m G)) hnN hN hg rfl (by omega) (by omega) (txt_row (unwN_row hR (by omega) hGr)) W h1 h2).mono fun e w' ⟨q', c, he, hr, _, _, hb⟩ => ?_
            rw [wrp_unw hR (by omega) hGr hs] at hr
            exact ⟨q', c, by rw [hm]; exact he, by rw [hm]; exact hr, hb⟩
      · exact ⟨G, .inr ⟨2, .inr (.inl ⟨rfl, hk, by omega⟩), fun Dc W h1 _ => Unwrap_form p n cap N g _ tn (tn + 2) hnN hN hcap hg (by omega) (by omega) W h1⟩⟩
    · exact ⟨G, .inr ⟨3, .inr (.inr ⟨rfl, by omega, by omega⟩), fun Dc W _ _ => Unwrap_key p n cap _ tn (tn + 2) (by omega) (by omega) W⟩⟩
  rcases UC with ⟨m, hm, UC, RC⟩ | ⟨E, hE, UC⟩
  · have UCC := Lib.hid UC; have RCC := Lib.hid RC
    clear UC RC hm hg hG hbig hbigt hp hq hsn hst hcap htcap mlowt
    go_enter Try.func4, Try.ntmps4
    go_wp2_with (first
      | (go_at_call 15; refine AL.out.mono ?_; rintro e w1 ⟨rfl, hb1⟩
         have B1 := Lib.hid hb1; have P1 := Lib.hid (HP.out.below hb1); have Q1 := Lib.hid (HQ.out.below hb1)
         clear hb1 HP HQ AL)
      | (go_at_call 9; refine (Copy_row q tn tcap G HST.out w1 Q1.out).mono ?_; rintro e w3 ⟨rfl, hr, hb⟩
         have C3 := Lib.hid hr; have B3 := Lib.hid (B1.out.trans (hb.mono B1.out.size)); have P3 := Lib.hid (P1.out.below hb); have Q3 := Lib.hid (Q1.out.below hb)
         clear hr hb P1 Q1)
      | (go_at_call 16; refine (UCC.out w1.heap.size w3 P3.out (C3.out.bytesAt.low rfl)).mono ?_; rintro e w4 ⟨D, rfl, hr, hb⟩
         have X4 := Lib.hid hr; have C4 := Lib.hid (C3.out.below hb C3.out.lt); have B4 := Lib.hid (B3.out.trans (hb.mono B3.out.size)); have P4 := Lib.hid (P3.out.below hb); have Q4 := Lib.hid (Q3.out.below hb)
         clear hr hb C3 P3 Q3 UCC)
      | (go_at_call 13; refine (Kept_row q tn tcap w1.heap.size G HST.out w4 Q4.out C4.out).mono ?_; rintro e w5 ⟨rfl, rfl⟩; clear C4)
      | (go_at_call 10; refine (RCC.out D w4 P4.out X4.out.bytesAt).mono ?_; rintro e w6 ⟨q', c, rfl, hr, hb⟩
         have Y6 := Lib.hid hr; have Q6 := Lib.hid (Q4.out.below hb); have B6 := Lib.hid (B4.out.trans (hb.mono B4.out.size))
         clear hr hb RCC Q4 P4 X4)
      | (go_at_call 11; refine (Same_true q' tn c q tcap _ _ (fun _ _ => rfl) w6 Y6.out Q6.out).mono ?_; rintro e w7 ⟨rfl, rfl⟩; clear Y6 Q6))
    go_ret
    exact ⟨rfl, B6.out⟩
  · have UCC := Lib.hid UC
    have hE0 : (E == 0) = false := by
      rcases hE with ⟨rfl, _⟩ | ⟨rfl, _⟩ | ⟨rfl, _⟩ <;> rfl
    have IC := Lib.hid (fun W => Is_err E hE0 W)
    have hF : ((E = 4 ∧ (((tn : Int) % 8) != 0) = false ∧ decide ((tn : Int) < 24) = false ∧ decide ((520 : Int) < (tn : Int)) = false) ∨ (E = 2 ∧ ((((tn : Int) % 8) != 0) = true ∨ ((((tn : Int) % 8) != 0) = false ∧ decide ((tn : Int) < 24) = true) ∨ ((((tn : Int) % 8) != 0) = false ∧ decide ((tn : Int) < 24) = false ∧ decide ((520 : Int) < (tn : Int)) = true)))) ∧ (((n : Int) != 16) = false ∨ (((n : Int) != 16) = true ∧ ((n : Int) != 32) = false)) ∨ (E = 3 ∧ ((n : Int) != 16) = true ∧ ((n : Int) != 32) = true) := by
      rcases hE with ⟨rfl, hk, h8, h24, h520⟩ | ⟨rfl, hk, hf⟩ | ⟨rfl, h16, h32⟩
      · refine .inl ⟨.inl ⟨rfl, ?_⟩, ?_⟩ <;> simp <;> omega
      · refine .inl ⟨.inr ⟨rfl, ?_⟩, ?_⟩ <;> simp <;> omega
      · refine .inr ⟨rfl, ?_⟩; simp; omega
    clear UC hE hE0 hg hG hbig hbigt hp hq hsn hst hcap htcap mlowt
    rcases hF with ⟨⟨rfl, t1, t2, t3⟩ | ⟨rfl, t1 | ⟨t1, t2⟩ | ⟨t1, t2, t3⟩⟩, k1 | ⟨k1, k2⟩⟩ | ⟨rfl, k1, k2⟩
    all_goals
      go_enter Try.func4, Try.ntmps4
      go_wp2_with (first
        | (go_at_call 15; refine AL.out.mono ?_; rintro e w1 ⟨rfl, hb1⟩
           have B1 := Lib.hid hb1; have P1 := Lib.hid (HP.out.below hb1); have Q1 := Lib.hid (HQ.out.below hb1)
           clear hb1 HP HQ AL)
        | (go_at_call 9; refine (Copy_row q tn tcap G HST.out w1 Q1.out).mono ?_; rintro e w3 ⟨rfl, hr, hb⟩
           have C3 := Lib.hid hr; have B3 := Lib.hid (B1.out.trans (hb.mono B1.out.size)); have P3 := Lib.hid (P1.out.below hb); have Q3 := Lib.hid (Q1.out.below hb)
           clear hr hb P1 Q1)
        | (go_at_call 16; refine (UCC.out w1.heap.size w3 P3.out (C3.out.bytesAt.low rfl)).mono ?_; rintro e w4 ⟨rfl, hb⟩
           have C4 := Lib.hid (C3.out.below hb C3.out.lt); have B4 := Lib.hid (B3.out.trans (hb.mono B3.out.size)); have Q4 := Lib.hid (Q3.out.below hb)
           clear hb C3 P3 Q3 UCC)
        | (go_at_call 13; refine (Kept_row q tn tcap w1.heap.size G HST.out w4 Q4.out C4.out).mono ?_; rintro e w5 ⟨rfl, rfl⟩; clear C4)
        | (go_at_call 17; refine (IC.out _).mono ?_; rintro e w6 ⟨rfl, rfl⟩; clear IC))
      go_ret
      exact ⟨rfl, B4.out⟩

theorem laidOut : laidOutB Try.prog = true := by kernel_rfl
set_option maxRecDepth 100000 in
theorem lifted (os : Os) (started : os.Started) (H : Type) (enc : TypeId × Value → H) :
    ReturnsInHanded {} Try.checked os 4 .any (Rows.wrapUnwrapsSpec.pre6 enc Try.prog Try.f4 Rows.wrapUnwrapsRow.domain false) (Rows.wrapUnwrapsSpec.post enc Try.prog Try.f4 false true false false) := by
  refine returnsInHanded_of_change_sized (C := Try.checked) own started (by kernel_rfl) Try.func4
    (ChangeSpec.witness6 (enc := enc) (C := Try.checked) false ⟨#[], #[.slice none 0 0, .slice none 0 0], []⟩ 8 (by kernel_rfl) (by kernel_rfl) (by kernel_rfl) (by kernel_rfl)) ?_
  intro W base args ds gs before hval0 hW hcnd hsz _
  have hval : ∀ (j : Nat) t v, Try.f4.params[j]? = some t → args[j]? = some v → Value.okWide Try.prog W .any base t v := hval0
  have hW' := hW
  obtain ⟨p, q, hA0, hV, rfl, hfz, hnd⟩ := hW
  have hA : DataW.TrodAll enc Try.prog W 0 (fun _ => true) true Try.f4.params.toList args.toList ds p := hA0
  rw [Try.params4] at hA hval
  obtain ⟨v0, vs0, d0, ds0, p0, q0, hargs, rfl, rfl, h0, r0⟩ := trodAll_cons hA
  obtain ⟨v1, vs1, d1, ds1, p1, q1, rfl, rfl, rfl, h1, r1⟩ := trodAll_cons r0
  obtain ⟨rfl, rfl, rfl⟩ := trodAll_nil r1
  obtain rfl : args = #[v0, v1] := by cases args; simp_all
  obtain ⟨rfl, rfl⟩ := trodVars_none hV
  have k0 := h0
  have lt0 : ∀ x ∈ p0, x.block < W.heap.size := by obtain ⟨m, hm⟩ := k0; exact DataW.trod_lt m _ _ _ hm
  obtain ⟨q0, n0, c0, a0, rfl, w0, y0, l0, m0⟩ := open_byteslice (hval 0 22 v0 rfl rfl) h0
  have k1 := h1
  have lt1 : ∀ x ∈ p1, x.block < W.heap.size := by obtain ⟨m, hm⟩ := k1; exact DataW.trod_lt m _ _ _ hm
  obtain ⟨q1, n1, c1, a1, rfl, w1, y1, l1, m1⟩ := open_byteslice (hval 1 22 v1 rfl rfl) h1
  have z0 := open_size k0 hsz (j := 0) (by rw [Try.params4]; rfl) rfl
  have z1 := open_size k1 hsz (j := 1) (by rw [Try.params4]; rfl) rfl
  clear hA0 hval0
  refine (walk q0 n0 c0 a0 q1 n1 c1 a1 w0 l0 z0 w1 l1 z1 W y0 y1).mono fun e W' ⟨he, bel⟩ => ?_
  subst he
  exact ⟨_, rfl, _, _, _, [], _, [], hW', trodAll_mk1 (shut_bool Try.underlying4 _), (trodAll_cons_mk (Below.trod laidOut (by kernel_rfl) (of_decide_eq_true (by kernel_rfl)) k0 bel lt0) (trodAll_cons_mk (Below.trod laidOut (by kernel_rfl) (of_decide_eq_true (by kernel_rfl)) k1 bel lt1) trodAll_mk0)), rfl, bel.frame _, fun h => by cases h⟩

theorem over : Rows.wrapUnwrapsRow.holds Try.pinned (OpenSpec.ofChange Rows.wrapUnwrapsSpec) :=
  OpenClaim.holds_of_wide 4 Try.f4 rfl rfl rfl rfl rfl rfl rfl ⟨rfl, rfl, rfl, rfl, rfl⟩ rfl rfl rfl rfl rfl (by kernel_rfl) Try.func4 (by kernel_rfl)
    (of_decide_eq_true (by kernel_rfl)) (by unfold Func.isWrapper; first | (rw [if_pos (by decide +kernel)]; kernel_rfl) | (rw [if_neg (by decide +kernel)]; exact ⟨rfl, rfl⟩))
    (fun os started H enc _ => lifted os started H enc)

theorem proved : Rows.WrapUnwrapsSaid := over
end Go.Proofs.Ytleoljdhaeoepaa.wrapUnwraps

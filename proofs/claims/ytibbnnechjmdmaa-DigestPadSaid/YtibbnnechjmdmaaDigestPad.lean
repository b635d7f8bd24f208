/- What package digest puts behind a text of any length is what the document does: the statement DigestPad. No condition. -/
import Derived.Test.YtibbnnechjmdmaaPadC
import Derived.Test.YtibbnnechjmdmaaRefPad
import Derived.Test.YtibbnnechjmdmaaStrS
namespace Go.Proofs.Ytibbnnechjmdmaa.digestPad
open Go.ChangeShapes Go.WideShapes Go.ChangeAt Go.RowKit
set_option linter.unusedVariables false

theorem own : ownKnob Try.prog.godebug = none := by kernel_rfl
theorem Same_any (p q : Option Addr) (n cap cap' : Nat) (g : Nat → Nat) (w : World) (hp : BytesAt w p n g) (hq : BytesAt w q n g) :
    Calls Try.prog 7 #[.slice p n cap, .slice q n cap'] w fun e w' => e = .returned (.bool true) ∧ w = w' := by
  have HP := Lib.hid hp
  have HQ := Lib.hid hq
  clear hp hq
  go_enter Try.func7, Try.ntmps7
  go_wp2_with (first
    | (refine wpList_string rfl (.tmp 5) rfl p n cap rfl g HP.out ?_)
    | (refine wpList_string rfl (.tmp 7) rfl q n cap' rfl g HQ.out ?_)
    | fail)
  go_ret
  exact ⟨rfl, rfl⟩
theorem at55 : padL (effN 55) = 9 := by decide +kernel
theorem at56 : padL (effN 56) = 72 := by decide +kernel
attribute [local irreducible] padL padB

set_option maxRecDepth 100000 in
set_option maxHeartbeats 2000000 in
theorem walk (n : Int) (hw : (Lit.int .i64 n).wf = true) (w : World) :
    Calls Try.prog 3 #[.int .i64 n] w fun e w' => e = .returned (.bool true) ∧ Below w.heap.size w w' := by
  have hL := padL_bd (effN n)
  have hmod := padL_mod (effN n)
  have P1 := Lib.hid (Pad_any n w)
  have P2 := Lib.hid (fun W => Pad_any 55 W)
  have P3 := Lib.hid (fun W => Pad_any 56 W)
  have P4 := Lib.hid (fun W => refPad_any n W)
  rw [at55] at P2
  rw [at56] at P3
  have heff : 0 ≤ n → n ≤ 1099511627776 → n = effN n := fun h0 h1 => by unfold effN; rw [if_neg (by omega)]; omega
  generalize effN n = m at *
  generalize padL m = L at *
  have l72 : ¬ 72 < L := by omega
  have HEFF := Lib.hid heff
  have HMOD := Lib.hid hmod
  clear heff hmod
  rcases (show (0 ≤ n ∧ n ≤ 1099511627776) ∨ (0 ≤ n ∧ ¬ n ≤ 1099511627776) ∨ ¬ 0 ≤ n by omega) with ⟨h0, h1⟩ | ⟨h0, h1⟩ | h0
  · have q0 : IntKind.i64.wrap (n + L) = n + L := IntWalk.i64_in _ (by omega)
    have t0 : ((n + (L : Int)).tmod 64 != 0) = false := by
      have := HEFF.out h0 h1
      have h2 := HMOD.out
      rw [IntWalk.rem_in _ _ (by omega)]; simp; omega
    have t1 : ((n + (L : Int)) % 64 != 0) = false := by
      have := HEFF.out h0 h1
      have h2 := HMOD.out
      simp; omega
    go_enter Try.func3, Try.ntmps3
    go_wp2_with (first
      | (go_at_call 6; refine P1.out.mono ?_; clear P1; rintro e w1 ⟨rfl, hb1, hl1⟩; have B1 := Lib.hid hb1; have L1 := Lib.hid hl1; clear hb1 hl1)
      | (go_at_call 6; refine (P2.out _).mono ?_; clear P2; rintro e w2 ⟨rfl, _, hl2⟩; have L2 := Lib.hid hl2; clear hl2)
      | (go_at_call 6; refine (P3.out _).mono ?_; clear P3; rintro e w3 ⟨rfl, _, hl3⟩; have L3 := Lib.hid hl3; clear hl3)
      | (go_at_call 8; refine (P4.out _).mono ?_; clear P4; rintro e w4 ⟨v4, rfl, hv4, hl4⟩; obtain ⟨q4, c4, rfl, _, _, hq4, _⟩ := hv4.bytes (Nat.le_refl _)
         have C1 := ((B1.out.below L2.out B1.out.lt).below (L3.out) (by have := B1.out.lt; have := L2.out.size; omega)).below hl4 (by have := B1.out.lt; have := L2.out.size; have := L3.out.size; omega)
         have C2 := Lib.hid (((L1.out.trans (L2.out.mono L1.out.size)).trans (L3.out.mono (by have := L1.out.size; have := L2.out.size; omega))).trans (hl4.mono (by have := L1.out.size; have := L2.out.size; have := L3.out.size; omega)))
         have C3 : BytesAt w4 (some ⟨w.heap.size, 0, none⟩) L (padB m) := .inr ⟨_, 0, rfl, C1.lt, by have h := C1.cells (o := 0) (n := L) (by omega); simp only [Nat.zero_add] at h; exact h⟩
         have HC3 := Lib.hid C3; have HQ4 := Lib.hid hq4
         clear C1 C3 hv4 hq4 hl4)
      | (go_at_call 7; refine (Same_any (some ⟨w.heap.size, 0, none⟩) q4 L L c4 (padB m) _ HC3.out HQ4.out).mono ?_; rintro e w5 ⟨rfl, rfl⟩))
    go_ret
    exact ⟨rfl, C2.out⟩
  · go_enter Try.func3, Try.ntmps3
    go_wp2_with (first
      | (go_at_call 6; refine P1.out.mono ?_; clear P1; rintro e w1 ⟨rfl, hb1, hl1⟩; have B1 := Lib.hid hb1; have L1 := Lib.hid hl1; clear hb1 hl1)
      | (go_at_call 6; refine (P2.out _).mono ?_; clear P2; rintro e w2 ⟨rfl, _, hl2⟩; have L2 := Lib.hid hl2; clear hl2)
      | (go_at_call 6; refine (P3.out _).mono ?_; clear P3; rintro e w3 ⟨rfl, _, hl3⟩; have L3 := Lib.hid hl3; clear hl3)
      | (go_at_call 8; refine (P4.out _).mono ?_; clear P4; rintro e w4 ⟨v4, rfl, hv4, hl4⟩; obtain ⟨q4, c4, rfl, _, _, hq4, _⟩ := hv4.bytes (Nat.le_refl _)
         have C1 := ((B1.out.below L2.out B1.out.lt).below (L3.out) (by have := B1.out.lt; have := L2.out.size; omega)).below hl4 (by have := B1.out.lt; have := L2.out.size; have := L3.out.size; omega)
         have C2 := Lib.hid (((L1.out.trans (L2.out.mono L1.out.size)).trans (L3.out.mono (by have := L1.out.size; have := L2.out.size; omega))).trans (hl4.mono (by have := L1.out.size; have := L2.out.size; have := L3.out.size; omega)))
         have C3 : BytesAt w4 (some ⟨w.heap.size, 0, none⟩) L (padB m) := .inr ⟨_, 0, rfl, C1.lt, by have h := C1.cells (o := 0) (n := L) (by omega); simp only [Nat.zero_add] at h; exact h⟩
         have HC3 := Lib.hid C3; have HQ4 := Lib.hid hq4
         clear C1 C3 hv4 hq4 hl4)
      | (go_at_call 7; refine (Same_any (some ⟨w.heap.size, 0, none⟩) q4 L L c4 (padB m) _ HC3.out HQ4.out).mono ?_; rintro e w5 ⟨rfl, rfl⟩))
    go_ret
    exact ⟨rfl, C2.out⟩
  · go_enter Try.func3, Try.ntmps3
    go_wp2_with (first
      | (go_at_call 6; refine P1.out.mono ?_; clear P1; rintro e w1 ⟨rfl, hb1, hl1⟩; have B1 := Lib.hid hb1; have L1 := Lib.hid hl1; clear hb1 hl1)
      | (go_at_call 6; refine (P2.out _).mono ?_; clear P2; rintro e w2 ⟨rfl, _, hl2⟩; have L2 := Lib.hid hl2; clear hl2)
      | (go_at_call 6; refine (P3.out _).mono ?_; clear P3; rintro e w3 ⟨rfl, _, hl3⟩; have L3 := Lib.hid hl3; clear hl3)
      | (go_at_call 8; refine (P4.out _).mono ?_; clear P4; rintro e w4 ⟨v4, rfl, hv4, hl4⟩; obtain ⟨q4, c4, rfl, _, _, hq4, _⟩ := hv4.bytes (Nat.le_refl _)
         have C1 := ((B1.out.below L2.out B1.out.lt).below (L3.out) (by have := B1.out.lt; have := L2.out.size; omega)).below hl4 (by have := B1.out.lt; have := L2.out.size; have := L3.out.size; omega)
         have C2 := Lib.hid (((L1.out.trans (L2.out.mono L1.out.size)).trans (L3.out.mono (by have := L1.out.size; have := L2.out.size; omega))).trans (hl4.mono (by have := L1.out.size; have := L2.out.size; have := L3.out.size; omega)))
         have C3 : BytesAt w4 (some ⟨w.heap.size, 0, none⟩) L (padB m) := .inr ⟨_, 0, rfl, C1.lt, by have h := C1.cells (o := 0) (n := L) (by omega); simp only [Nat.zero_add] at h; exact h⟩
         have HC3 := Lib.hid C3; have HQ4 := Lib.hid hq4
         clear C1 C3 hv4 hq4 hl4)
      | (go_at_call 7; refine (Same_any (some ⟨w.heap.size, 0, none⟩) q4 L L c4 (padB m) _ HC3.out HQ4.out).mono ?_; rintro e w5 ⟨rfl, rfl⟩))
    go_ret
    exact ⟨rfl, C2.out⟩

set_option maxRecDepth 100000 in
theorem lifted (os : Os) (started : os.Started) (H : Type) (enc : TypeId × Value → H) :
    ReturnsInHanded {} Try.checked os 3 .any (Rows.digestPadSpec.pre6 enc Try.prog Try.f3 Rows.digestPadRow.domain false) (Rows.digestPadSpec.post enc Try.prog Try.f3 false true false false) := by
  refine returnsInHanded_of_change (C := Try.checked) own started (by kernel_rfl) Try.func3
    (ChangeSpec.witness6 (enc := enc) (C := Try.checked) false ⟨#[], #[.int .i64 0], []⟩ 8 (by kernel_rfl) (by kernel_rfl) (by kernel_rfl) (by kernel_rfl)) ?_
  intro W base args ds gs before hval0 hW hcnd _
  have hval : ∀ (j : Nat) t v, Try.f3.params[j]? = some t → args[j]? = some v → Value.okWide Try.prog W .any base t v := hval0
  have hW' := hW
  obtain ⟨p, q, hA0, hV, rfl, hfz, hnd⟩ := hW
  have hA : DataW.TrodAll enc Try.prog W 0 (fun _ => true) true Try.f3.params.toList args.toList ds p := hA0
  rw [Try.params3] at hA hval
  obtain ⟨v0, vs0, d0, ds0, p0, q0, hargs, rfl, rfl, h0, r0⟩ := trodAll_cons hA
  obtain ⟨rfl, rfl, rfl⟩ := trodAll_nil r0
  obtain rfl : args = #[v0] := by cases args; simp_all
  obtain ⟨rfl, rfl⟩ := trodVars_none hV
  obtain ⟨a0, rfl, rfl, rfl, w0⟩ := open_int Try.underlying3 (hval 0 3 v0 rfl rfl) h0
  clear hA0 hval0
  refine (walk a0 w0 W).mono fun e W' ⟨he, bel⟩ => ?_
  subst he
  exact ⟨_, rfl, _, _, _, [], _, [], hW', trodAll_mk1 (shut_bool Try.underlying4 _), (trodAll_cons_mk (shut_int Try.underlying3 w0) trodAll_mk0), rfl, bel.frame _, fun h => by cases h⟩

theorem over : Rows.digestPadRow.holds Try.pinned (OpenSpec.ofChange Rows.digestPadSpec) :=
  OpenClaim.holds_of_wide 3 Try.f3 rfl rfl rfl rfl rfl rfl rfl ⟨rfl, rfl, rfl, rfl, rfl⟩ rfl rfl rfl rfl rfl (by kernel_rfl) Try.func3 (by kernel_rfl)
    (of_decide_eq_true (by kernel_rfl)) (by unfold Func.isWrapper; first | (rw [if_pos (by decide +kernel)]; kernel_rfl) | (rw [if_neg (by decide +kernel)]; exact ⟨rfl, rfl⟩))
    (fun os started H enc _ => lifted os started H enc)

theorem proved : Rows.DigestPadSaid := over
end Go.Proofs.Ytibbnnechjmdmaa.digestPad

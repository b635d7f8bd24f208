/- VtRefN: cut by mkvt.py out of RdNumO: the contract of citadelref08's Number, with its bytes in a row of its own. Conditions: as it says. -/
import Derived.Test.YtccpecajbfpjdaaDoorRdWords
import Derived.Test.YtccpecajbfpjdaaDoorTrText
import Derived.Test.YtccpecajbfpjdaaDoorVtNum
namespace Go.Proofs.YtccpecajbfpjdaaDoor
open Go.ChangeShapes Go.WideShapes Go.ChangeAt Go.RowKit
set_option linter.unusedVariables false
theorem OwnL.kept {α β : Type} {e e' : TypeId} {sz sz' base top base' top' : Nat} {C : α → List Value} {C' : β → List Value} {w w' : World} {v u : Value} {l : List α} {m : List β} (h : OwnL e' sz' C' w base' top' u m) (h' : OwnL e sz C w base top v l) (hne : e ≠ e') (hg : w.grownBy w' v.ownBlock) (ht : top' ≤ w.heap.size) : OwnL e' sz' C' w' base' top' u m := by
  rcases h with h | ⟨B, c, cur, h1, h2, h3, h4, h5⟩
  · exact .inl h
  · refine .inr ⟨B, c, cur, h1, h2, h3, (hg.block B (by omega) fun he => ?_).trans h4, h5⟩
    rcases h' with ⟨rfl, _⟩ | ⟨B', c', cur', rfl, _, _, g4, _⟩
    · cases he
    · cases he
      rw [g4] at h4
      injection h4 with h4
      injection h4 with _ h4 _
      exact hne h4
section
attribute [local irreducible] dig valN numF extF cat put
set_option maxRecDepth 100000 in
set_option maxHeartbeats 4000000 in
theorem refNumber_own (s : Nat) (z : Int) (hs : IsSize s) (hz : fitsN s z) (w : World) : Calls Tryd.prog 26 #[.int .i64 s, .int .i64 z] w fun e w' => ∃ p c, e = .returned (.tuple #[.slice p s c, .int .i64 0]) ∧ OwnS 5 1 w' w.heap.size w'.heap.size (.slice p s c) s (numF s z) ∧ Below w.heap.size w w' := by
  have hu : IntKind.u64.wrap z = (cutN z : Nat) := by rw [IntKind.wrap_u64]; unfold cutN; omega
  have hs8 : s ≤ 8 := by unfold IsSize at hs; omega
  unfold fitsN at hz
  rcases hs with hs | hs | hs | hs
  case' inl =>
    have d1 : ((s : Int) != 1) = false := by simp; omega
    have g1 : ((s : Int) == 1) = true := by simp; omega
    have g2 : ((s : Int) == 2) = false := by simp; omega
    have g4 : ((s : Int) == 4) = false := by simp; omega
    have g8 : decide ((s : Int) < 8) = true := by simp; omega
    have g88 : decide (s < 8) = true := by simp; omega
    have x0 : 0 ≤ z ∧ z ≤ 255 := by
      rcases hz with h | ⟨h1, h2⟩
      · omega
      · rw [show s = 1 by omega, show (256 : Int) ^ 1 = 256 from rfl] at h2; omega
    have x1 : decide ((255 : Int) < z) = false := by simp; omega
    have x2 : decide (z < 0) = false := by simp; omega
    clear x0
  case' inr.inl =>
    have d1 : ((s : Int) != 1) = true := by simp; omega
    have d2 : ((s : Int) != 2) = false := by simp; omega
    have g1 : ((s : Int) == 1) = false := by simp; omega
    have g2 : ((s : Int) == 2) = true := by simp; omega
    have g4 : ((s : Int) == 4) = false := by simp; omega
    have g8 : decide ((s : Int) < 8) = true := by simp; omega
    have g88 : decide (s < 8) = true := by simp; omega
    have x0 : 0 ≤ z ∧ z ≤ 65535 := by
      rcases hz with h | ⟨h1, h2⟩
      · omega
      · rw [show s = 2 by omega, show (256 : Int) ^ 2 = 65536 from rfl] at h2; omega
    have x1 : decide ((65535 : Int) < z) = false := by simp; omega
    have x2 : decide (z < 0) = false := by simp; omega
    clear x0
  case' inr.inr.inl =>
    have d1 : ((s : Int) != 1) = true := by simp; omega
    have d2 : ((s : Int) != 2) = true := by simp; omega
    have d4 : ((s : Int) != 4) = false := by simp; omega
    have g1 : ((s : Int) == 1) = false := by simp; omega
    have g2 : ((s : Int) == 2) = false := by simp; omega
    have g4 : ((s : Int) == 4) = true := by simp; omega
    have g8 : decide ((s : Int) < 8) = true := by simp; omega
    have g88 : decide (s < 8) = true := by simp; omega
    have x0 : 0 ≤ z ∧ z ≤ 4294967295 := by
      rcases hz with h | ⟨h1, h2⟩
      · omega
      · rw [show s = 4 by omega, show (256 : Int) ^ 4 = 4294967296 from rfl] at h2; omega
    have x1 : decide ((4294967295 : Int) < z) = false := by simp; omega
    have x2 : decide (z < 0) = false := by simp; omega
    clear x0
  case' inr.inr.inr =>
    have d1 : ((s : Int) != 1) = true := by simp; omega
    have d2 : ((s : Int) != 2) = true := by simp; omega
    have d4 : ((s : Int) != 4) = true := by simp; omega
    have d8 : ((s : Int) != 8) = false := by simp; omega
    have g1 : ((s : Int) == 1) = false := by simp; omega
    have g2 : ((s : Int) == 2) = false := by simp; omega
    have g4 : ((s : Int) == 4) = false := by simp; omega
    have g8 : decide ((s : Int) < 8) = false := by simp; omega
    have g88 : decide (s < 8) = false := by simp; omega
  all_goals
    clear hs hz
    go_enter Tryd.func26, Tryd.ntmps26
    go_wp2
    go_loopw [8, 6, 7] (fun v v6 v7 wr => ∃ k : Nat, k ≤ s ∧ v = .int .i64 k ∧ v6 = .int .u64 (cutN z / 256 ^ k : Nat) ∧ OwnS 5 1 wr w.heap.size wr.heap.size v7 k (numF k z) ∧ Below w.heap.size w wr) (fun v _ _ _ => s - (intOf v).toNat)
    case' round =>
      clear hu d1 g1 g2 g4 g8 g88
      try clear d2
      try clear d4
      try clear d8
      try clear x1 x2
    case atStart => exact ⟨0, by omega, rfl, by rw [Nat.pow_zero, Nat.div_one], .inl ⟨rfl, rfl⟩, Below.refl _ _⟩
    case round =>
      obtain ⟨k, hk, rfl, rfl, ho, hb⟩ := hrel
      by_cases hlt : k < s
      · have e1 : (k : Int) < (s : Int) := by omega
        have q1 : IntKind.i64.wrap ((k : Int) + 1) = (k : Int) + 1 := IntWalk.i64_in _ (by omega)
        have hd := cutN_dig z (i := k) (by omega)
        have hn := cutN_next z k
        obtain ⟨v7, c7, rfl, hc7, _, hb7, _⟩ := ho.bytes (Nat.le_refl _)
        generalize hx : cutN z / 256 ^ k = x at *
        have e2 : ((x : Nat) : Int) % 256 = (dig z k : Nat) := by omega
        have hxb : x < 18446744073709551616 := by
          rw [← hx]; exact Nat.lt_of_le_of_lt (Nat.div_le_self _ _) (by unfold cutN; omega)
        obtain ⟨y, hy⟩ : ∃ y, x / 256 = y := ⟨_, rfl⟩
        have e4 : IntKind.u64.wrap ((x : Int) / 256) = (y : Int) := by
          rw [IntKind.wrap_u64]; omega
        rw [hy] at hn
        clear hxb
        have hdl := dig_lt z k
        generalize hb0 : dig z k = b at *
        have HN := Lib.hid hn
        have HB7 := Lib.hid hb7; have HB := Lib.hid hb
        have HF0 := Lib.hid (show numF (k + 1) z 0 = b by rw [numF_first, hb0])
        have E4 := Lib.hid e4
        clear hn hd ho hb7 hb hx hb0 e4 hy
        go_wp2_with (first
          | (refine wpList_u64_quo rfl (.tmp 66) rfl x y rfl E4.out ?_)
          | (refine wpList_append_own_bytes rfl (.tmp 63) (.tmp 64) rfl w.heap.size (wr.heap.size + 1) 1 (.slice (some ⟨wr.heap.size, 0, none⟩) 1 1) (numF (k + 1) z) (numF k z) v7 k c7 rfl rfl (OwnS.one wr _ w.heap.size b HB.out.size HF0.out) (HB7.out.below ((Below.refl _ wr).alloc (Nat.le_refl _) _)) (fun j _ => numF_after k z j) ?own ?bas ?_
             case own => omega
             case bas => have := HB.out.size; simp; omega
             intro v8 w8 ho8 hb8
             obtain ⟨p8, c8, hv8, _⟩ := ho8.bytes (Nat.le_refl _)
             subst hv8
             have O8 := Lib.hid ho8
             have B8 := Lib.hid ((HB.out.alloc HB.out.size (.cells #[.int .u8 (b : Nat)] 5)).trans hb8)
             clear ho8 hb8 HB HB7))
        have hkk := O8.out
        rw [Nat.add_comm 1 k] at hkk
        have HK := Lib.hid hkk
        clear hkk
        go_wp2
        go_roundw
        case rel => exact ⟨k + 1, by omega, by go_num, by rw [← HN.out], by rw [Nat.add_comm 1 k]; exact HK.out, B8.out⟩
        case measure => simp [intOf]; omega
      · have e1 : ¬ (k : Int) < (s : Int) := by omega
        obtain rfl : k = s := by omega
        obtain ⟨v7, c7, rfl, hc7, _, hb7, _⟩ := ho.bytes (Nat.le_refl _)
        have HO := Lib.hid ho; have HB := Lib.hid hb
        clear hb7 hb ho
        go_wp2
        go_ret2
        exact ⟨_, _, rfl, HO.out, HB.out⟩
end
end Go.Proofs.YtccpecajbfpjdaaDoor

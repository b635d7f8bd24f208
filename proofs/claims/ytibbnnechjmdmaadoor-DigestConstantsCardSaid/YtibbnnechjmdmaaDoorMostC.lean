/- The contract of package citadelref04's most: is a number at most another one, both by their places? It writes nothing. Condition: the places are below 65536; at most 100 of them. -/
import Derived.Test.YtibbnnechjmdmaaDoorListC
namespace Go.Proofs.YtibbnnechjmdmaaDoor
open Go.ChangeShapes Go.WideShapes Go.ChangeAt Go.RowKit

/-- A number's places, and noughts behind. -/
def extK (f : Nat → Nat) (n : Nat) : Nat → Nat := fun j => if j < n then f j else 0
theorem extK_val (f : Nat → Nat) (n m : Nat) : val (extK f n) (n + m) = val f n := by
  have e : val (extK f n) (n + m) = val (extK f n) n := val_ext fun j h1 _ => if_neg (by omega)
  rw [e]; exact val_congr fun j hj => if_pos hj
theorem extK_lt {f : Nat → Nat} {n : Nat} (hf : ∀ j, j < n → f j < 65536) (j : Nat) : extK f n j < 65536 := by
  unfold extK; split
  · exact hf j (by assumption)
  · omega
attribute [local irreducible] val

set_option maxRecDepth 100000 in
set_option maxHeartbeats 2000000 in
theorem most_any (A B la lb ca cb : Nat) (f g : Nat → Nat) (hla : la ≤ 100) (hlb : lb ≤ 100) (hf : ∀ j, j < la → f j < 65536) (hg : ∀ j, j < lb → g j < 65536) (w : World) (ha : WAt w A la f) (hb : WAt w B lb g) :
    Calls Tryd.prog 37 #[.slice (some ⟨A, 0, none⟩) la ca, .slice (some ⟨B, 0, none⟩) lb cb] w fun e w' => e = .returned (.bool (decide (val f la ≤ val g lb))) ∧ w = w' := by
  obtain ⟨N, hN⟩ : ∃ N, la + lb = N := ⟨_, rfl⟩
  have q0 : IntKind.i64.wrap ((la : Int) + lb) = (N : Int) := by rw [IntWalk.i64_in _ (by omega)]; omega
  have vf : val (extK f la) (N + 1) = val f la := by rw [← hN, Nat.add_assoc]; exact extK_val f la _
  have vg : val (extK g lb) (N + 1) = val g lb := by rw [← hN, Nat.add_comm la lb, Nat.add_assoc]; exact extK_val g lb _
  have HA := Lib.hid ha; have HB := Lib.hid hb
  have VF := Lib.hid vf; have VG := Lib.hid vg
  have LF := Lib.hid (extK_lt hf); have LG := Lib.hid (extK_lt hg)
  clear ha hb vf vg hf hg
  go_enter Tryd.func37, Tryd.ntmps37
  go_wp2
  go_loopw [5, 6, 7] (fun v _ _ wr => ∃ i : Int, v = .int .i64 i ∧ -1 ≤ i ∧ i ≤ N ∧ (∀ j : Nat, i < j → j ≤ N → extK f la j = extK g lb j) ∧ w = wr) (fun v _ _ _ => (intOf v + 1).toNat)
  case atStart => exact ⟨N, rfl, by omega, by omega, fun j h1 h2 => by omega, rfl⟩
  case round =>
    obtain ⟨i, rfl, hi1, hi2, he, rfl⟩ := hrel
    have HE := Lib.hid he
    clear he
    by_cases h0 : 0 ≤ i
    · obtain ⟨m, rfl⟩ : ∃ m : Nat, i = m := ⟨i.toNat, by omega⟩
      have hless : extK f la m ≠ extK g lb m → decide ((extK f la m : Int) < (extK g lb m : Int)) = decide (val f la ≤ val g lb) := fun hne => by
        rw [← VF.out, ← VG.out]
        rcases Nat.lt_or_gt_of_ne hne with h | h
        · have := val_less LF.out h (n := N + 1) (by omega) fun j h1 h2 => HE.out j (by omega) (by omega)
          rw [decide_eq_true (by omega), decide_eq_true (Nat.le_of_lt this)]
        · have := val_less LG.out h (n := N + 1) (by omega) fun j h1 h2 => (HE.out j (by omega) (by omega)).symm
          rw [decide_eq_false (by omega), decide_eq_false (by omega)]
      have hsame : extK f la m = extK g lb m → ∀ j : Nat, (m : Int) - 1 < j → j ≤ N → extK f la j = extK g lb j := fun hs j h1 h2 => by
        by_cases e : j = m
        · rw [e]; exact hs
        · exact HE.out j (by omega) h2
      have HLS := Lib.hid hless; have HSM := Lib.hid hsame
      have qs : IntKind.i64.wrap ((m : Int) - 1) = (m : Int) - 1 := IntWalk.i64_in _ (by omega)
      have l0 : (0 : Int) ≤ m := by omega
      clear hless hsame HE
      by_cases hA : m < la
      · have e1 : (m : Int) < la := by omega
        have cA := HA.out.2 m hA
        have ex : extK f la m = f m := if_pos hA
        obtain ⟨x, hx⟩ : ∃ x, f m = x := ⟨_, rfl⟩
        rw [hx] at cA ex
        have EX := Lib.hid ex
        clear ex hx hA
        by_cases hB : m < lb
        · have e2 : (m : Int) < lb := by omega
          have cB := HB.out.2 m hB
          have ey : extK g lb m = g m := if_pos hB
          obtain ⟨y, hy⟩ : ∃ y, g m = y := ⟨_, rfl⟩
          rw [hy] at cB ey
          have EY := Lib.hid ey
          clear ey hy hB
          by_cases hxy : x = y
          · have hs := HSM.out (by rw [EX.out, EY.out]; exact hxy)
            have HS2 := Lib.hid hs
            clear hs HLS HSM
            subst hxy
            go_wp2
            go_roundw
            case rel => exact ⟨(m : Int) - 1, by go_num, by omega, by omega, HS2.out, trivial⟩
            case measure => first | (simp [intOf]; done) | (simp [intOf]; omega)
          · have hr := HLS.out (by rw [EX.out, EY.out]; exact hxy)
            rw [EX.out, EY.out] at hr
            have HR := Lib.hid hr
            have n1 : ¬ (((x : Nat) : Int) = ((y : Nat) : Int)) := by omega
            have n2 : (((x : Nat) : Int) == ((y : Nat) : Int)) = false := by first | (simp; done) | (simp; omega)
            have n3 : (((x : Nat) : Int) != ((y : Nat) : Int)) = true := by first | (simp; done) | (simp; omega)
            clear hr HLS HSM hxy
            go_wp2
            go_ret
            exact ⟨by rw [← HR.out]; simp, rfl⟩
        · have e2 : ¬ (m : Int) < lb := by omega
          have ey : extK g lb m = 0 := if_neg hB
          have EY := Lib.hid ey
          clear ey hB
          by_cases hxy : x = 0
          · have hs := HSM.out (by rw [EX.out, EY.out]; exact hxy)
            have HS2 := Lib.hid hs
            clear hs HLS HSM
            subst hxy
            go_wp2
            go_roundw
            case rel => exact ⟨(m : Int) - 1, by go_num, by omega, by omega, HS2.out, trivial⟩
            case measure => first | (simp [intOf]; done) | (simp [intOf]; omega)
          · have hr := HLS.out (by rw [EX.out, EY.out]; exact hxy)
            rw [EX.out, EY.out] at hr
            have HR := Lib.hid hr
            have n1 : ¬ (((x : Nat) : Int) = ((0 : Nat) : Int)) := by omega
            have n2 : (((x : Nat) : Int) == ((0 : Nat) : Int)) = false := by first | (simp; done) | (simp; omega)
            have n3 : (((x : Nat) : Int) != ((0 : Nat) : Int)) = true := by first | (simp; done) | (simp; omega)
            clear hr HLS HSM hxy
            go_wp2
            go_ret
            exact ⟨by rw [← HR.out]; simp, rfl⟩
      · have e1 : ¬ (m : Int) < la := by omega
        have ex : extK f la m = 0 := if_neg hA
        have EX := Lib.hid ex
        clear ex hA
        by_cases hB : m < lb
        · have e2 : (m : Int) < lb := by omega
          have cB := HB.out.2 m hB
          have ey : extK g lb m = g m := if_pos hB
          obtain ⟨y, hy⟩ : ∃ y, g m = y := ⟨_, rfl⟩
          rw [hy] at cB ey
          have EY := Lib.hid ey
          clear ey hy hB
          by_cases hxy : 0 = y
          · have hs := HSM.out (by rw [EX.out, EY.out]; exact hxy)
            have HS2 := Lib.hid hs
            clear hs HLS HSM
            subst hxy
            go_wp2
            go_roundw
            case rel => exact ⟨(m : Int) - 1, by go_num, by omega, by omega, HS2.out, trivial⟩
            case measure => first | (simp [intOf]; done) | (simp [intOf]; omega)
          · have hr := HLS.out (by rw [EX.out, EY.out]; exact hxy)
            rw [EX.out, EY.out] at hr
            have HR := Lib.hid hr
            have n1 : ¬ (((0 : Nat) : Int) = ((y : Nat) : Int)) := by omega
            have n2 : (((0 : Nat) : Int) == ((y : Nat) : Int)) = false := by first | (simp; done) | (simp; omega)
            have n3 : (((0 : Nat) : Int) != ((y : Nat) : Int)) = true := by first | (simp; done) | (simp; omega)
            clear hr HLS HSM hxy
            go_wp2
            go_ret
            exact ⟨by rw [← HR.out]; simp, rfl⟩
        · have e2 : ¬ (m : Int) < lb := by omega
          have ey : extK g lb m = 0 := if_neg hB
          have EY := Lib.hid ey
          clear ey hB
          by_cases hxy : (0 : Nat) = 0
          · have hs := HSM.out (by rw [EX.out, EY.out])
            have HS2 := Lib.hid hs
            clear hs HLS HSM
            skip
            go_wp2
            go_roundw
            case rel => exact ⟨(m : Int) - 1, by go_num, by omega, by omega, HS2.out, trivial⟩
            case measure => first | (simp [intOf]; done) | (simp [intOf]; omega)
          · exact absurd rfl hxy
    · have hd1 : decide (0 ≤ i) = false := by simp; omega
      have hr : decide (val f la ≤ val g lb) = true := by
        rw [← VF.out, ← VG.out, val_congr (f := extK f la) (g := extK g lb) (n := N + 1) fun j hj => HE.out j (by omega) (by omega)]
        exact decide_eq_true (Nat.le_refl _)
      have HR := Lib.hid hr
      clear hr
      go_wp2
      go_ret
      exact ⟨by rw [HR.out]; rfl, rfl⟩
end Go.Proofs.YtibbnnechjmdmaaDoor

/- The contracts of package sbox's functions of bytes: each answers the byte that SubNum's function says and leaves the world as it is. Conditions: the arguments are bytes. -/
import Derived.Test.YtilfjmpoiiepkaaFieldC
import Derived.Test.YtilfjmpoiiepkaaSubNum
namespace Go.Proofs.Ytilfjmpoiiepkaa
open Go.ChangeShapes Go.WideShapes Go.ChangeAt Go.RowKit

set_option maxHeartbeats 400000 in
theorem Rot_any (b : Int) (k : Nat) (h0 : 0 ≤ b) (h1 : b ≤ 255) (k0 : 1 ≤ k) (k1 : k ≤ 6) (w : World) :
    Calls Try.prog 60 #[.int .u8 b, .int .i64 k] w fun e w' => e = .returned (.int .u8 (rotI b k)) ∧ w = w' := by
  have E := Lib.hid (fun x y hx hy => rotI_or (b := b) (k := k) h0 h1 (by omega) (x := x) (y := y) hx hy)
  have A1 : bits .and .u64 1 7 = 1 := by decide +kernel
  have A2 : bits .and .u64 2 7 = 2 := by decide +kernel
  have A3 : bits .and .u64 3 7 = 3 := by decide +kernel
  have A4 : bits .and .u64 4 7 = 4 := by decide +kernel
  have A5 : bits .and .u64 5 7 = 5 := by decide +kernel
  have A6 : bits .and .u64 6 7 = 6 := by decide +kernel
  rcases (show k = 1 ∨ k = 2 ∨ k = 3 ∨ k = 4 ∨ k = 5 ∨ k = 6 by omega) with rfl | rfl | rfl | rfl | rfl | rfl
  all_goals
    go_enter Try.func60, Try.ntmps60
    go_wp2
    go_ret
    refine ⟨?_, rfl⟩
    rw [← E.out _ _ rfl rfl]
    rfl

def sprTo (b : Int) : Nat → Int
  | 0 => b
  | k + 1 => xorI (sprTo b k) (rotI b (k + 1))
theorem sprTo_end (b : Int) : sprTo b 4 = sprI b := (sprI_step b).symm
theorem sprTo_bd {b : Int} (h0 : 0 ≤ b) (h1 : b ≤ 255) : ∀ k, k ≤ 4 → 0 ≤ sprTo b k ∧ sprTo b k ≤ 255
  | 0, _ => ⟨h0, h1⟩
  | k + 1, hk => xorI_bd (sprTo_bd h0 h1 k (by omega)).2 (rotI_bd h1 (by omega)).2

set_option maxHeartbeats 400000 in
theorem spread_any (b : Int) (h0 : 0 ≤ b) (h1 : b ≤ 255) (w : World) :
    Calls Try.prog 56 #[.int .u8 b] w fun e w' => e = .returned (.int .u8 (sprI b)) ∧ w = w' := by
  go_enter Try.func56, Try.ntmps56
  go_wp2
  go_loop [3, 4] (fun vs vn => ∃ (k n : Nat), k ≤ 4 ∧ n = k + 1 ∧ vs = .int .u8 (sprTo b k) ∧ vn = .int .i64 n) (fun _ vn => 5 - (intOf vn).toNat)
  case atStart => exact ⟨0, 1, by omega, rfl, rfl, rfl⟩
  case round =>
    obtain ⟨k, n, hk, hn, rfl, rfl⟩ := hrel
    by_cases hz : n ≤ 4
    · have sb := sprTo_bd h0 h1 k hk
      have rb := rotI_bd (b := b) (k := n) h1 (by omega)
      have HX : bits .xor .u8 (sprTo b k) (rotI b n) = xorI (sprTo b k) (rotI b n) := xorI_bits sb.1 sb.2 rb.1 rb.2
      have HN := Lib.hid hn; clear hn
      go_wp2_with (go_at_call 60; refine (Rot_any _ _ h0 h1 (by have := HN.out; omega) (by omega) _).mono ?_; rintro e w' ⟨rfl, rfl⟩)
      go_round
      case rel => exact ⟨k + 1, n + 1, by have := HN.out; omega, by rw [HN.out], by rw [HN.out]; rfl, by go_num⟩
      case measure => simp [intOf]; omega
    · obtain rfl : k = 4 := by omega
      obtain rfl : n = 5 := hn
      have hd : decide (((5 : Nat) : Int) ≤ 4) = false := rfl
      go_wp2
      go_ret
      rw [sprTo_end]; exact ⟨rfl, rfl⟩

/-- The same at an integer. -/
def rotZ (b k : Int) : Int := rotI b k.toNat
theorem rotZ_bd {b k : Int} (h1 : b ≤ 255) (h : k ≤ 6) : 0 ≤ rotZ b k ∧ rotZ b k ≤ 255 := rotI_bd h1 (by omega)
theorem Rot_at (b k : Int) (h0 : 0 ≤ b) (h1 : b ≤ 255) (k0 : 1 ≤ k) (k1 : k ≤ 6) (w : World) :
    Calls Try.prog 60 #[.int .u8 b, .int .i64 k] w fun e w' => e = .returned (.int .u8 (rotZ b k)) ∧ w = w' := by
  have := Rot_any b k.toNat h0 h1 (by omega) (by omega) w
  rw [Int.toNat_of_nonneg (by omega)] at this; exact this
theorem gatZ_step (b : Int) : gatI b = xorI (xorI (rotZ b 1) (rotZ b 3)) (rotZ b 6) := gatI_step b

set_option maxHeartbeats 400000 in
theorem gather_any (b : Int) (h0 : 0 ≤ b) (h1 : b ≤ 255) (w : World) :
    Calls Try.prog 58 #[.int .u8 b] w fun e w' => e = .returned (.int .u8 (gatI b)) ∧ w = w' := by
  have r1 := rotZ_bd (b := b) (k := 1) h1 (by omega)
  have r3 := rotZ_bd (b := b) (k := 3) h1 (by omega)
  have r6 := rotZ_bd (b := b) (k := 6) h1 (by omega)
  have x1 : bits .xor .u8 (rotZ b 1) (rotZ b 3) = xorI (rotZ b 1) (rotZ b 3) := xorI_bits r1.1 r1.2 r3.1 r3.2
  have b1 := xorI_bd (a := rotZ b 1) (b := rotZ b 3) r1.2 r3.2
  have x2 : bits .xor .u8 (xorI (rotZ b 1) (rotZ b 3)) (rotZ b 6) = xorI (xorI (rotZ b 1) (rotZ b 3)) (rotZ b 6) := xorI_bits b1.1 b1.2 r6.1 r6.2
  have E := Lib.hid (gatZ_step b)
  clear r1 r3 r6 b1
  go_enter Try.func58, Try.ntmps58
  go_wp2_with (go_at_call 60; refine (Rot_at _ _ h0 h1 (by omega) (by omega) _).mono ?_; rintro e w' ⟨rfl, rfl⟩)
  go_ret
  rw [E.out]; exact ⟨rfl, rfl⟩

theorem Sub_any (b : Int) (h0 : 0 ≤ b) (h1 : b ≤ 255) (w : World) :
    Calls Try.prog 49 #[.int .u8 b] w fun e w' => e = .returned (.int .u8 (subI b)) ∧ w = w' := by
  have bi := invI_bd (b := b) h1
  have bs := sprI_bd (b := invI b) bi.2
  have x1 : bits .xor .u8 (sprI (invI b)) 99 = xorI (sprI (invI b)) 99 := xorI_bits bs.1 bs.2 (by omega) (by omega)
  have E := Lib.hid (subI_step b)
  go_enter Try.func49, Try.ntmps49
  go_wp2_with (first
    | (go_at_call 57; refine (Inv_any _ h0 h1 _).mono ?_; rintro e w' ⟨rfl, rfl⟩)
    | (go_at_call 56; refine (spread_any _ bi.1 bi.2 _).mono ?_; rintro e w' ⟨rfl, rfl⟩))
  go_ret
  rw [E.out]; exact ⟨rfl, rfl⟩

theorem Back_any (b : Int) (h0 : 0 ≤ b) (h1 : b ≤ 255) (w : World) :
    Calls Try.prog 50 #[.int .u8 b] w fun e w' => e = .returned (.int .u8 (backI b)) ∧ w = w' := by
  have bx := xorI_bd (a := b) (b := 99) h1 (by omega)
  have bg := gatI_bd (b := xorI b 99) bx.2
  have x1 : bits .xor .u8 b 99 = xorI b 99 := xorI_bits h0 h1 (by omega) (by omega)
  have E := Lib.hid (backI_step b)
  go_enter Try.func50, Try.ntmps50
  go_wp2_with (first
    | (go_at_call 58; refine (gather_any _ bx.1 bx.2 _).mono ?_; rintro e w' ⟨rfl, rfl⟩)
    | (go_at_call 57; refine (Inv_any _ bg.1 bg.2 _).mono ?_; rintro e w' ⟨rfl, rfl⟩))
  go_ret
  rw [E.out]; exact ⟨rfl, rfl⟩
end Go.Proofs.Ytilfjmpoiiepkaa

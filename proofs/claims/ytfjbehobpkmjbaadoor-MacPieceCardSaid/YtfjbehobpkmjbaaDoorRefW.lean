/- The contracts of package citadelref04's shr and rotr: each answers what the plain functions say and leaves the world as it is. Conditions: the word is below 2^32, the number of places from 0 to 32. -/
import Derived.Test.YtfjbehobpkmjbaaDoorRowsS
namespace Go.Proofs.YtfjbehobpkmjbaaDoor
open Go.ChangeShapes Go.WideShapes Go.ChangeAt Go.RowKit

/-- A word shifted right, rotated right, by a number. -/
def shZ (x : Nat) (k : Int) : Int := (x / 2 ^ k.toNat : Nat)
def roZ (x : Nat) (k : Int) : Int := (rr x k.toNat : Nat)
set_option maxHeartbeats 400000 in
theorem refShr_any (x : Nat) (n : Int) (hx : x < 4294967296) (h0 : 0 ≤ n) (hn : n ≤ 32) (w : World) :
    Calls Tryd.prog 35 #[.int .u32 x, .int .i64 n] w fun e w' => e = .returned (.int .u32 (shZ x n)) ∧ w = w' := by
  go_enter Tryd.func35, Tryd.ntmps35
  go_wp2
  go_loop [0, 5] (fun vb vk => ∃ (k y : Nat), (k : Int) ≤ n ∧ vb = .int .u32 y ∧ vk = .int .i64 k ∧ y = x / 2 ^ k) (fun _ vk => (n - intOf vk).toNat)
  case atStart => exact ⟨0, x, by omega, rfl, rfl, by simp⟩
  case round =>
    obtain ⟨k, y, hk, rfl, rfl, hy⟩ := hrel
    have yb : y < 4294967296 := by rw [hy]; exact Nat.lt_of_le_of_lt (Nat.div_le_self _ _) hx
    have HY := Lib.hid hy; clear hy
    by_cases hz : (k : Int) < n
    · go_wp2
      go_round
      case rel => exact ⟨k + 1, y / 2, by omega, by congr 1, by go_num, by have := HY.out; rw [Nat.pow_succ, ← Nat.div_div_eq_div_mul, ← this]⟩
      case measure => simp [intOf]; omega
    · go_wp2
      go_ret
      have e : shZ x n = y := by
        have := HY.out; unfold shZ; rw [show n.toNat = k by omega, ← this]
      rw [e]; exact ⟨rfl, rfl⟩
attribute [local irreducible] rr

set_option maxHeartbeats 400000 in
theorem refRot_any (x : Nat) (n : Int) (hx : x < 4294967296) (h0 : 0 ≤ n) (hn : n ≤ 32) (w : World) :
    Calls Tryd.prog 40 #[.int .u32 x, .int .i64 n] w fun e w' => e = .returned (.int .u32 (roZ x n)) ∧ w = w' := by
  go_enter Tryd.func40, Tryd.ntmps40
  go_wp2
  go_loop [0, 5] (fun vb vk => ∃ (k y : Nat), (k : Int) ≤ n ∧ vb = .int .u32 y ∧ vk = .int .i64 k ∧ y = rr x k) (fun _ vk => (n - intOf vk).toNat)
  case atStart => exact ⟨0, x, by omega, rfl, rfl, (rr_zero x).symm⟩
  case round =>
    obtain ⟨k, y, hk, rfl, rfl, hy⟩ := hrel
    have yb : y < 4294967296 := by rw [hy]; exact rr_lt hx (by omega)
    have HY := Lib.hid hy; clear hy
    by_cases hz : (k : Int) < n
    · go_wp2
      go_round
      case rel => exact ⟨k + 1, y / 2 + y % 2 * 2147483648, by omega, by congr 1, by go_num, by have := HY.out; rw [rr_step (by omega), ← this]⟩
      case measure => simp [intOf]; omega
    · go_wp2
      go_ret
      have e : roZ x n = y := by
        have := HY.out; unfold roZ; rw [show n.toNat = k by omega, ← this]
      rw [e]; exact ⟨rfl, rfl⟩
end Go.Proofs.YtfjbehobpkmjbaaDoor

/- The contracts of package digest's functions of one word: rotations, s0, s1, a piece's word; each leaves the world as it is. Conditions: words are below 2^32, bytes below 256, a rotation is by 1 to 31. -/
import Derived.Test.YtfjbehobpkmjbaaDoorRowsS
import Derived.BigQuiet
import Derived.StillTail
namespace Go.Proofs.YtfjbehobpkmjbaaDoor
open Go.ChangeShapes Go.WideShapes Go.ChangeAt Go.RowKit

theorem and31 : ∀ n : Nat, n < 32 → 1 ≤ n → bits .and .u64 (18446744073709551616 - (n : Int)) 31 = 32 - (n : Int) := by decide +kernel
theorem rot_int {x n : Nat} (hx : x < 4294967296) (h0 : 1 ≤ n) (hn : n ≤ 31) {a b : Int} (ha : a = (x : Int) * 2 ^ (32 - n) % 4294967296) (hb : b = (x : Int) / 2 ^ (32 - (32 - n))) :
    bits .or .u32 a b = ((rr x n : Nat) : Int) := by
  have e2 : 32 - (32 - n) = n := by omega
  rw [e2] at hb
  have p1 : ((2 : Int) ^ (32 - n)) = ((2 ^ (32 - n) : Nat) : Int) := by rw [Int.natCast_pow]; rfl
  have p2 : ((2 : Int) ^ n) = ((2 ^ n : Nat) : Int) := by rw [Int.natCast_pow]; rfl
  rw [p1, ← Int.natCast_mul] at ha
  rw [p2, ← Int.natCast_ediv] at hb
  rw [show (x * 2 ^ (32 - n) : Nat) % (4294967296 : Int) = ((x * 2 ^ (32 - n) % 4294967296 : Nat) : Int) by omega] at ha
  have hd : x / 2 ^ n < 4294967296 := Nat.lt_of_le_of_lt (Nat.div_le_self _ _) hx
  rw [ha, hb, u32_or_nat _ _ (Nat.mod_lt _ (by omega)) hd, rr_or hx h0 hn]

set_option maxHeartbeats 400000 in
theorem Rot32_any (x n : Nat) (hx : x < 4294967296) (h0 : 1 ≤ n) (hn : n ≤ 31) (w : World) :
    Calls Tryd.prog 49 #[.int .u32 x, .int .i64 (-(n : Int))] w fun e w' => e = .returned (.int .u32 (rr x n : Nat)) ∧ w = w' := by
  have E := Lib.hid (fun a b ha hb => rot_int (x := x) (n := n) hx h0 hn (a := a) (b := b) ha hb)
  have e1 : IntKind.u64.wrap (-(n : Int)) = 18446744073709551616 - (n : Int) := by rw [IntKind.wrap_u64]; omega
  have e2 := and31 n (by omega) h0
  have e3 : IntKind.u64.wrap (32 - (32 - (n : Int))) = 32 - (32 - (n : Int)) := by rw [IntKind.wrap_u64]; omega
  have e4 : (0 : Int) ≤ 32 - (n : Int) := by omega
  have e5 : 32 - (n : Int) ≤ 32 := by omega
  have e6 : (0 : Int) ≤ 32 - (32 - (n : Int)) := by omega
  have e7 : 32 - (32 - (n : Int)) ≤ 32 := by omega
  go_enter Tryd.func49, Tryd.ntmps49
  go_wp2
  go_ret
  refine ⟨?_, rfl⟩
  rw [← E.out _ _ rfl rfl]
  rfl
/-- A word rotated right, by a number. -/
def rrZ (x : Nat) (k : Int) : Int := (rr x k.toNat : Nat)
theorem right_any (x : Nat) (k : Int) (hx : x < 4294967296) (h0 : 1 ≤ k) (hn : k ≤ 31) (w : World) :
    Calls Tryd.prog 43 #[.int .u32 x, .int .i64 k] w fun e w' => e = .returned (.int .u32 (rrZ x k)) ∧ w = w' := by
  have C := Rot32_any x k.toNat hx (by omega) (by omega)
  rw [Int.toNat_of_nonneg (by omega)] at C
  have C' := Lib.hid C
  have e1 : IntKind.i64.wrap (-k) = -k := IntWalk.i64_in _ (by omega)
  clear C
  go_enter Tryd.func43, Tryd.ntmps43
  go_wp2_with (go_at_call 49; refine (C'.out _).mono ?_; rintro e w' ⟨rfl, rfl⟩)
  go_ret
  exact ⟨rfl, rfl⟩
theorem early_bits {x : Nat} (hx : x < 4294967296) : bits .xor .u32 (bits .xor .u32 (rrZ x 7) (rrZ x 18)) ((x : Int) / 8) = (earW x : Nat) := by
  unfold rrZ
  show bits .xor .u32 (bits .xor .u32 (rr x 7 : Nat) (rr x 18 : Nat)) _ = _
  rw [u32_xor_nat _ _ (rr_lt hx (by omega)) (rr_lt hx (by omega)), show (x : Int) / 8 = (x / 2 ^ 3 : Nat) by omega, u32_xor_nat _ _ (xor32_lt (rr_lt hx (by omega)) (rr_lt hx (by omega))) (by omega)]
  rfl
theorem late_bits {x : Nat} (hx : x < 4294967296) : bits .xor .u32 (bits .xor .u32 (rrZ x 17) (rrZ x 19)) ((x : Int) / 1024) = (latW x : Nat) := by
  unfold rrZ
  show bits .xor .u32 (bits .xor .u32 (rr x 17 : Nat) (rr x 19 : Nat)) _ = _
  rw [u32_xor_nat _ _ (rr_lt hx (by omega)) (rr_lt hx (by omega)), show (x : Int) / 1024 = (x / 2 ^ 10 : Nat) by omega, u32_xor_nat _ _ (xor32_lt (rr_lt hx (by omega)) (rr_lt hx (by omega))) (by omega)]
  rfl
attribute [local irreducible] rrZ rr earW latW

set_option maxHeartbeats 400000 in
theorem early_any (x : Nat) (hx : x < 4294967296) (w : World) :
    Calls Tryd.prog 46 #[.int .u32 x] w fun e w' => e = .returned (.int .u32 (earW x : Nat)) ∧ w = w' := by
  have E := Lib.hid (early_bits hx)
  go_enter Tryd.func46, Tryd.ntmps46
  go_wp2_with (go_at_call 43; refine (right_any x _ hx (by decide) (by decide) _).mono ?_; rintro e w' ⟨rfl, rfl⟩)
  go_ret
  rw [← E.out]; exact ⟨rfl, rfl⟩
set_option maxHeartbeats 400000 in
theorem late_any (x : Nat) (hx : x < 4294967296) (w : World) :
    Calls Tryd.prog 45 #[.int .u32 x] w fun e w' => e = .returned (.int .u32 (latW x : Nat)) ∧ w = w' := by
  have E := Lib.hid (late_bits hx)
  go_enter Tryd.func45, Tryd.ntmps45
  go_wp2_with (go_at_call 43; refine (right_any x _ hx (by decide) (by decide) _).mono ?_; rintro e w' ⟨rfl, rfl⟩)
  go_ret
  rw [← E.out]; exact ⟨rfl, rfl⟩
end Go.Proofs.YtfjbehobpkmjbaaDoor

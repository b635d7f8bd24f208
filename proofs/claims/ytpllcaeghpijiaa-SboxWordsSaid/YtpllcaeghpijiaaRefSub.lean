/- The contracts of package citadelref02's bit and Sub: each answers what the plain functions say, and writes nothing that was there. Conditions: the arguments are bytes; a bit's number is from 0 to 100. -/
import Derived.Test.YtpllcaeghpijiaaRef1b
import Derived.Test.YtpllcaeghpijiaaSubNum
namespace Go.Proofs.Ytpllcaeghpijiaa
open Go.ChangeShapes Go.WideShapes Go.ChangeAt Go.RowKit

set_option maxHeartbeats 400000 in
theorem bit2_any (b i : Int) (h0 : 0 ≤ b) (h1 : b ≤ 255) (g0 : 0 ≤ i) (g1 : i ≤ 100) (w : World) :
    Calls Try.prog 22 #[.int .u8 b, .int .i64 i] w fun e w' => e = .returned (.int .i64 (bitI b i)) ∧ w = w' := by
  go_enter Try.func22, Try.ntmps22
  go_wp2
  go_loop [0, 5] (fun vb vk => ∃ (k : Nat) (x : Int), (k : Int) ≤ i ∧ 0 ≤ x ∧ x ≤ 255 ∧ vb = .int .u8 x ∧ vk = .int .i64 k ∧ x.toNat = b.toNat / 2 ^ k) (fun _ vk => (i - intOf vk).toNat)
  case atStart => exact ⟨0, b, by omega, h0, h1, rfl, rfl, by simp⟩
  case round =>
    obtain ⟨k, x, hk, x0, x1, rfl, rfl, hx⟩ := hrel
    have HX := Lib.hid hx; clear hx
    by_cases hz : (k : Int) < i
    · go_wp2
      go_round
      case rel => exact ⟨k + 1, x / 2, by omega, by omega, by omega, rfl, by go_num, by have := HX.out; rw [Nat.pow_succ, ← Nat.div_div_eq_div_mul, ← this]; omega⟩
      case measure => simp [intOf]; omega
    · go_wp2
      go_ret
      have e : bitI b i = x % 2 := by
        have := HX.out; unfold bitI; rw [show i.toNat = k by omega, ← this]; omega
      rw [e]; exact ⟨rfl, rfl⟩

/-- The sum of the bits that make bit i. -/
def sumI (v i : Int) : Int := bitI v i + bitI v ((i + 4) % 8) + bitI v ((i + 5) % 8) + bitI v ((i + 6) % 8) + bitI v ((i + 7) % 8) + bitI 99 i
theorem sumI_is (v : Int) {i : Int} {m : Nat} (h : i = m) : sumI v i = (refBit v.toNat m : Nat) := by
  subst h
  unfold sumI refBit bitI bt
  rw [show ((m : Int) + 4) % 8 = ((m + 4) % 8 : Nat) by omega, show ((m : Int) + 5) % 8 = ((m + 5) % 8 : Nat) by omega, show ((m : Int) + 6) % 8 = ((m + 6) % 8 : Nat) by omega, show ((m : Int) + 7) % 8 = ((m + 7) % 8 : Nat) by omega]
  simp only [Int.toNat_natCast, show (99 : Int).toNat = 99 from rfl]
  omega
theorem sumI_bd (v i : Int) : 0 ≤ sumI v i ∧ sumI v i ≤ 6 := by
  have a := bitI_bd v i; have b := bitI_bd v ((i + 4) % 8); have c := bitI_bd v ((i + 5) % 8)
  have d := bitI_bd v ((i + 6) % 8); have e := bitI_bd v ((i + 7) % 8); have f := bitI_bd 99 i
  unfold sumI; omega
/-- What the loop has so far, so many bits being left. -/
def outI (v : Int) (m : Nat) : Int := ((spr v.toNat ^^^ 99) / 2 ^ m : Nat)
theorem outI_step {v : Int} {i : Int} {m : Nat} (h : v ≤ 255) (hm : m < 8) (hi : i = m) : outI v m = 2 * outI v (m + 1) + sumI v i % 2 := by
  have := refBit_step (v := v.toNat) (m := m) (by omega) hm
  rw [sumI_is v hi]; unfold outI; rw [← this]; omega
theorem outI_start {v : Int} (h : v ≤ 255) : outI v 8 = 0 := by
  have := xor_lt (spr_lt (n := v.toNat) (by omega)) (show 99 < 256 by omega)
  unfold outI; rw [show (2 : Nat) ^ 8 = 256 from rfl]; omega
theorem outI_end (b : Int) : outI (invI b) 0 = subI b := by
  unfold outI subI subN invI; rw [Nat.pow_zero, Nat.div_one, Int.toNat_natCast]
theorem outI_bd {v : Int} (h : v ≤ 255) (m : Nat) : 0 ≤ outI v (m + 1) ∧ outI v (m + 1) ≤ 127 := by
  have := xor_lt (spr_lt (n := v.toNat) (by omega)) (show 99 < 256 by omega)
  have e : (spr v.toNat ^^^ 99) / 2 ^ (m + 1) = (spr v.toNat ^^^ 99) / 2 / 2 ^ m := by rw [Nat.pow_succ, Nat.mul_comm, Nat.div_div_eq_div_mul]
  have l : (spr v.toNat ^^^ 99) / 2 / 2 ^ m ≤ (spr v.toNat ^^^ 99) / 2 := Nat.div_le_self _ _
  have l2 : (spr v.toNat ^^^ 99) / 2 ^ (m + 1) ≤ 127 := by rw [e]; exact Nat.le_trans l (by omega)
  unfold outI; exact ⟨Int.natCast_nonneg _, Int.ofNat_le.2 l2⟩
attribute [local irreducible] sumI outI subI bitI

set_option maxHeartbeats 2000000 in
theorem refSub_any (b : Int) (h0 : 0 ≤ b) (h1 : b ≤ 255) (w : World) :
    Calls Try.prog 10 #[.int .u8 b] w fun e w' => e = .returned (.int .u8 (subI b)) ∧ Below w.heap.size w w' := by
  have bi := invI_bd (b := b) h1
  have HE := Lib.hid (outI_end b)
  generalize hv : invI b = v at *
  go_enter Try.func10, Try.ntmps10
  go_wp2_with (go_at_call 21; refine (refInv_any _ h0 h1 _).mono ?_; rw [hv]; rintro e w' ⟨rfl, hb⟩)
  clear hv
  have HB := Lib.hid hb; clear hb
  go_loop [4, 5] (fun v4 v5 => ∃ (m : Nat) (z : Int), m ≤ 8 ∧ z + 1 = m ∧ v4 = .int .u8 (outI v m) ∧ v5 = .int .i64 z) (fun _ v5 => (intOf v5 + 1).toNat)
  case atStart => exact ⟨8, 7, by omega, by omega, by rw [outI_start bi.2], rfl⟩
  case round =>
    obtain ⟨m, z, hm, hz, rfl, rfl⟩ := hrel
    cases m with
    | zero =>
      obtain rfl : z = -1 := by omega
      clear hz hm
      go_wp2
      go_ret
      rw [HE.out]; exact ⟨rfl, HB.out⟩
    | succ m =>
      obtain rfl : z = m := by omega
      have HS := Lib.hid (outI_step (v := v) (i := m) bi.2 (by omega) rfl)
      have HQ := Lib.hid (show sumI v m = bitI v m + bitI v (((m : Int) + 4) % 8) + bitI v (((m : Int) + 5) % 8) + bitI v (((m : Int) + 6) % 8) + bitI v (((m : Int) + 7) % 8) + bitI 99 m by unfold sumI; rfl)
      have ob := outI_bd (v := v) bi.2 m
      have sb := sumI_bd v m
      have c0 := bitI_bd v m
      have c1 := bitI_bd v (((m : Int) + 4) % 8)
      have c2 := bitI_bd v (((m : Int) + 5) % 8)
      have c3 := bitI_bd v (((m : Int) + 6) % 8)
      have c4 := bitI_bd v (((m : Int) + 7) % 8)
      have c5 := bitI_bd 99 m
      have m1 : ((m : Int) + 4).tmod 8 = ((m : Int) + 4) % 8 := IntWalk.rem_in _ _ (by omega)
      have m2 : ((m : Int) + 5).tmod 8 = ((m : Int) + 5) % 8 := IntWalk.rem_in _ _ (by omega)
      have m3 : ((m : Int) + 6).tmod 8 = ((m : Int) + 6) % 8 := IntWalk.rem_in _ _ (by omega)
      have m4 : ((m : Int) + 7).tmod 8 = ((m : Int) + 7) % 8 := IntWalk.rem_in _ _ (by omega)
      go_wp2_with (go_at_call 22; refine (bit2_any _ _ (by omega) (by omega) (by omega) (by omega) _).mono ?_; rintro e w' ⟨rfl, rfl⟩)
      go_round
      case rel => exact ⟨m, (m : Int) - 1, by omega, by omega, by rw [HS.out, HQ.out]; congr 1; omega, rfl⟩
      case measure => simp [intOf]
end Go.Proofs.Ytpllcaeghpijiaa

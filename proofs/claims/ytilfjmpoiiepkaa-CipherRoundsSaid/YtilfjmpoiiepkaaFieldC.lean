/- The contracts of package field's Twice, Mul and Inv: each answers the byte that Num's function says and leaves the world as it is. Conditions: the arguments are bytes. -/
import Derived.Test.YtilfjmpoiiepkaaRows
import Derived.Test.YtilfjmpoiiepkaaNum
import Derived.WalkKit
import Derived.ProofKit
import Derived.OpenShut
import Derived.Lib.Hide
import Derived.Outline
namespace Go.Proofs.Ytilfjmpoiiepkaa
open Go.ChangeShapes Go.WideShapes Go.ChangeAt Go.RowKit

theorem Twice_any (b : Int) (h0 : 0 ≤ b) (h1 : b ≤ 255) (w : World) :
    Calls Try.prog 51 #[.int .u8 b] w fun e w' => e = .returned (.int .u8 (twI b)) ∧ w = w' := by
  by_cases h : b < 128
  · have ht : (bits .and .u8 b 128 != 0) = false := by rw [top_low h0 h]; rfl
    have e := Lib.hid (twI_low h0 h)
    go_enter Try.func51, Try.ntmps51
    go_wp2
    go_ret
    rw [e.out]; exact ⟨rfl, rfl⟩
  · have ht : (bits .and .u8 b 128 != 0) = true := by rw [top_high (by omega) h1]; rfl
    have e := Lib.hid (twI_high (Int.not_lt.mp h) h1)
    go_enter Try.func51, Try.ntmps51
    go_wp2
    go_ret
    rw [e.out]; exact ⟨rfl, rfl⟩

/-- The loop's steps on Go's integers: what is left to come of the product. -/
def restI (n : Nat) (a b s : Int) : Int := (mulS n a.toNat b.toNat s.toNat : Nat)
theorem restI_odd {n : Nat} {a b s : Int} (h0 : 0 ≤ b) (ho : b % 2 = 1) : restI (n + 1) a b s = restI n (twI a) (b / 2) (xorI s a) := by
  unfold restI twI xorI; rw [Int.toNat_natCast, Int.toNat_natCast]
  show ((mulS n (tw a.toNat) (b.toNat / 2) (if b.toNat % 2 = 1 then s.toNat ^^^ a.toNat else s.toNat) : Nat) : Int) = _
  rw [if_pos (by omega), show (b / 2).toNat = b.toNat / 2 by omega]
theorem restI_even {n : Nat} {a b s : Int} (h0 : 0 ≤ b) (ho : b % 2 = 0) : restI (n + 1) a b s = restI n (twI a) (b / 2) s := by
  unfold restI twI; rw [Int.toNat_natCast]
  show ((mulS n (tw a.toNat) (b.toNat / 2) (if b.toNat % 2 = 1 then s.toNat ^^^ a.toNat else s.toNat) : Nat) : Int) = _
  rw [if_neg (by omega), show (b / 2).toNat = b.toNat / 2 by omega]
theorem restI_zero {n : Nat} {a s : Int} (h : 0 ≤ s) : restI n a 0 s = s := by
  unfold restI; rw [show (0 : Int).toNat = 0 from rfl, mulS_zero]; omega
theorem restI_all (a b : Int) : restI 8 a b 0 = mulI a b := rfl

set_option maxHeartbeats 400000 in
theorem Mul_any (a b : Int) (h0 : 0 ≤ a) (h1 : a ≤ 255) (g0 : 0 ≤ b) (g1 : b ≤ 255) (w : World) :
    Calls Try.prog 45 #[.int .u8 a, .int .u8 b] w fun e w' => e = .returned (.int .u8 (mulI a b)) ∧ w = w' := by
  go_enter Try.func45, Try.ntmps45
  go_wp2
  go_loop [0, 1, 5] (fun va vb vs => ∃ (n : Nat) (x y s : Int), 0 ≤ x ∧ x ≤ 255 ∧ 0 ≤ y ∧ y ≤ 255 ∧ y < 2 ^ n ∧ 0 ≤ s ∧ s ≤ 255 ∧ va = .int .u8 x ∧ vb = .int .u8 y ∧ vs = .int .u8 s ∧ restI n x y s = mulI a b) (fun _ vb _ => (intOf vb).toNat)
  case atStart => exact ⟨8, a, b, 0, h0, h1, g0, g1, by omega, by omega, by omega, rfl, rfl, rfl, restI_all a b⟩
  case round =>
    obtain ⟨n, x, y, s, x0, x1, y0, y1, yn, s0, s1, rfl, rfl, rfl, hr⟩ := hrel
    have HR := Lib.hid hr; clear hr
    by_cases hz : y = 0
    · subst hz
      go_wp2
      go_ret
      rw [← HR.out, restI_zero s0]; exact ⟨rfl, rfl⟩
    · have hnz : (y != 0) = true := by simpa using hz
      obtain ⟨m, rfl⟩ : ∃ m, n = m + 1 := by
        cases n with
        | zero => exfalso; simp at yn; omega
        | succ m => exact ⟨m, rfl⟩
      have ym : y / 2 < 2 ^ m := by have := Int.pow_succ 2 m; omega
      have tb := twI_bd (b := x) x1
      by_cases ho : y % 2 = 1
      · have HN := Lib.hid (restI_odd (n := m) (a := x) (s := s) y0 ho)
        have hb : (bits .and .u8 y 1 != 0) = true := by rw [low_bit y0 y1, ho]; rfl
        have HX := Lib.hid (xorI_bits s0 s1 x0 x1)
        have sb := xorI_bd (a := s) (b := x) s1 x1
        clear ho yn
        go_wp2_with (go_at_call 51; refine (Twice_any _ (by omega) (by omega) _).mono ?_; rintro e w' ⟨rfl, rfl⟩)
        go_round
        case rel => exact ⟨m, twI x, y / 2, xorI s x, by omega, by omega, by omega, by omega, ym, by omega, by omega, rfl, rfl, by rw [HX.out], by rw [← HN.out]; exact HR.out⟩
        case measure => simp [intOf]; omega
      · have he : y % 2 = 0 := by omega
        have HN := Lib.hid (restI_even (n := m) (a := x) (s := s) y0 he)
        have hb : (bits .and .u8 y 1 != 0) = false := by rw [low_bit y0 y1, he]; rfl
        clear ho he yn
        go_wp2_with (go_at_call 51; refine (Twice_any _ (by omega) (by omega) _).mono ?_; rintro e w' ⟨rfl, rfl⟩)
        go_round
        case rel => exact ⟨m, twI x, y / 2, s, by omega, by omega, by omega, by omega, ym, by omega, by omega, rfl, rfl, rfl, by rw [← HN.out]; exact HR.out⟩
        case measure => simp [intOf]; omega

/-- What is left to come of the inverse. -/
def restV (n : Nat) (b p : Int) : Int := (invS n b.toNat p.toNat : Nat)
theorem restV_step (n : Nat) (b p : Int) : restV (n + 1) b p = restV n (mulI b b) (mulI p (mulI b b)) := by
  unfold restV mulI; rw [Int.toNat_natCast, Int.toNat_natCast]; rfl
theorem restV_end (b p : Int) (h : 0 ≤ p) : restV 0 b p = p := by unfold restV; show ((p.toNat : Nat) : Int) = p; omega
theorem restV_all (b : Int) : restV 7 b 1 = invI b := rfl

set_option maxHeartbeats 400000 in
theorem Inv_any (b : Int) (h0 : 0 ≤ b) (h1 : b ≤ 255) (w : World) :
    Calls Try.prog 57 #[.int .u8 b] w fun e w' => e = .returned (.int .u8 (invI b)) ∧ w = w' := by
  go_enter Try.func57, Try.ntmps57
  go_wp2
  go_loop [0, 3, 4] (fun vb vp vi => ∃ (k : Nat) (x p : Int), k ≤ 7 ∧ 0 ≤ x ∧ x ≤ 255 ∧ 0 ≤ p ∧ p ≤ 255 ∧ vb = .int .u8 x ∧ vp = .int .u8 p ∧ vi = .int .i64 k ∧ restV (7 - k) x p = invI b) (fun _ _ vi => 7 - (intOf vi).toNat)
  case atStart => exact ⟨0, b, 1, by omega, h0, h1, by omega, by omega, rfl, rfl, rfl, restV_all b⟩
  case round =>
    obtain ⟨k, x, p, hk, x0, x1, p0, p1, rfl, rfl, rfl, hr⟩ := hrel
    have HR := Lib.hid hr; clear hr
    by_cases hz : k < 7
    · have HN : Hid (restV (7 - k) x p = restV (7 - (k + 1)) (mulI x x) (mulI p (mulI x x))) := by
        have e : 7 - k = (7 - (k + 1)) + 1 := by omega
        unfold Hid; rw [e]; exact restV_step _ _ _
      have b1 := mulI_bd (a := x) (b := x) x1
      have b2 := mulI_bd (a := p) (b := mulI x x) p1
      go_wp2_with (go_at_call 45; refine (Mul_any _ _ (by omega) (by omega) (by omega) (by omega) _).mono ?_; rintro e w' ⟨rfl, rfl⟩)
      go_round
      case rel => exact ⟨k + 1, mulI x x, mulI p (mulI x x), by omega, by omega, by omega, by omega, by omega, rfl, rfl, by go_num, by rw [← HN.out]; exact HR.out⟩
      case measure => simp [intOf]; omega
    · obtain rfl : k = 7 := by omega
      go_wp2
      go_ret
      rw [← HR.out, show 7 - 7 = 0 from rfl, restV_end _ _ p0]; exact ⟨rfl, rfl⟩
end Go.Proofs.Ytilfjmpoiiepkaa

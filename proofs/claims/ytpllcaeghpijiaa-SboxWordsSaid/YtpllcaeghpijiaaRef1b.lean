/- The contract of package citadelref01's Inv: it answers the inverse that the code reckons, and writes nothing that was there. Condition: the argument is a byte. -/
import Derived.Test.YtpllcaeghpijiaaRef1
namespace Go.Proofs.Ytpllcaeghpijiaa
open Go.ChangeShapes Go.WideShapes Go.ChangeAt Go.RowKit

theorem zero_mul (x : Int) : mulI 0 x = 0 := by
  unfold mulI
  have h : mul (0 : Int).toNat x.toNat = 0 := by
    have e : mul (0 ^^^ 0) x.toNat = mul 0 x.toNat ^^^ mul 0 x.toNat := mul_left x.toNat (by omega) (by omega)
    rw [Nat.xor_self] at e; simpa using e
  rw [h]; rfl
theorem mulI_inv {b : Int} (h0 : 1 ≤ b) (h1 : b ≤ 255) : mulI b (invI b) = 1 := by
  unfold mulI invI; rw [Int.toNat_natCast, mul_inv (by omega) (by omega)]; rfl
theorem invI_zero : invI 0 = 0 := by decide +kernel
theorem inv_one {b i : Int} (h0 : 0 ≤ b) (h1 : b ≤ 255) (g0 : 0 ≤ i) (g1 : i ≤ 255) (h : mulI b i = 1) : i = invI b := by
  have hb : 1 ≤ b := by
    by_cases e : b = 0
    · subst e; rw [zero_mul] at h; omega
    · omega
  have bd := invI_bd (b := b) h1
  have e1 : mulI i (mulI b (invI b)) = i := by rw [mulI_inv hb h1, mulI_one g0]
  rw [← mulI_assoc g1 h1 bd.2, mulI_comm g1 h1, h, mulI_comm (by omega) bd.2, mulI_one bd.1] at e1
  exact e1.symm

set_option maxRecDepth 100000 in
set_option maxHeartbeats 1000000 in
theorem refInv_any (b : Int) (h0 : 0 ≤ b) (h1 : b ≤ 255) (w : World) :
    Calls Try.prog 21 #[.int .u8 b] w fun e w' => e = .returned (.int .u8 (invI b)) ∧ Below w.heap.size w w' := by
  go_enter Try.func21, Try.ntmps21
  go_wp2
  go_loopw [3] (fun v3 wr => ∃ i : Nat, i ≤ 256 ∧ v3 = .int .i64 i ∧ (∀ j : Nat, j < i → mulI b j ≠ 1) ∧ Below w.heap.size w wr) (fun v3 _ => 256 - (intOf v3).toNat)
  case atStart => exact ⟨0, by omega, rfl, fun j hj => absurd hj (by omega), Below.refl _ _⟩
  case round =>
    obtain ⟨i, hi, rfl, hno, hbel⟩ := hrel
    have HN := Lib.hid hno; clear hno
    have HL := Lib.hid hbel; clear hbel
    by_cases hlt : i < 256
    · have mb := mulI_bd (a := b) (b := i) h1
      by_cases h1' : mulI b i = 1
      · have HI := Lib.hid (inv_one h0 h1 (by omega) (by omega) h1')
        have ht : (mulI b i == 1) = true := by rw [h1']; rfl
        clear h1' mb
        go_wp2_with (go_at_call 25; refine (refMul_any _ _ (by omega) (by omega) (by omega) (by omega) _).mono ?_; rintro e w' ⟨rfl, hb⟩)
        go_ret
        rw [← HI.out]
        exact ⟨rfl, HL.out.trans (by rename_i hb; exact hb.mono HL.out.size)⟩
      · have ht : (mulI b i == 1) = false := by simpa using h1'
        have HI := Lib.hid h1'; clear h1' mb
        go_wp2_with (go_at_call 25; refine (refMul_any _ _ (by omega) (by omega) (by omega) (by omega) _).mono ?_; rintro e w' ⟨rfl, hb⟩)
        go_roundw
        case rel => exact ⟨i + 1, by omega, by go_num, fun j hj => by
            by_cases e : j = i
            · subst e; exact HI.out
            · exact HN.out j (by omega), HL.out.trans (by rename_i hb; exact hb.mono HL.out.size)⟩
        case measure => simp [intOf]; omega
    · obtain rfl : i = 256 := by omega
      go_wp2
      go_ret
      have e : invI b = 0 := by
        by_cases hz : b = 0
        · subst hz; exact invI_zero
        · have bd := invI_bd (b := b) h1
          exfalso
          refine HN.out (invI b).toNat (by omega) ?_
          rw [Int.toNat_of_nonneg bd.1]; exact mulI_inv (by omega) h1
      rw [e]; exact ⟨rfl, HL.out⟩
end Go.Proofs.Ytpllcaeghpijiaa

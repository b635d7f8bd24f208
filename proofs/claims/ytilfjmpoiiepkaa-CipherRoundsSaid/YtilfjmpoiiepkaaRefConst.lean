/- The contract of package citadelref02's Constant: a power of 2, if there is such a round, else 0; and it writes nothing that was there. Condition: the argument is an int. -/
import Derived.Test.YtilfjmpoiiepkaaConstC
import Derived.Test.YtilfjmpoiiepkaaRef1
namespace Go.Proofs.Ytilfjmpoiiepkaa
open Go.ChangeShapes Go.WideShapes Go.ChangeAt Go.RowKit

theorem Constant_any (i : Int) (w : World) :
    Calls Try.prog 55 #[.int .i64 i] w fun e w' => e = .returned (.agg (cellsOf .u8 (mk 4 (oneK (conN i))))) ∧ Below w.heap.size w w' := by
  by_cases h : i < 1 ∨ 60 < i
  · exact Constant_out i h w
  · obtain ⟨M, rfl⟩ : ∃ M : Nat, i = M := ⟨i.toNat, by omega⟩
    exact Constant_in M (by omega) (by omega) w

set_option maxHeartbeats 400000 in
theorem refConst_any (i : Int) (w : World) :
    Calls Try.prog 36 #[.int .i64 i] w fun e w' => e = .returned (.int .u8 (conI i)) ∧ Below w.heap.size w w' := by
  by_cases h : i < 1 ∨ 60 < i
  · have hc : conI i = 0 := by unfold conI; rw [if_neg (by omega)]
    rw [hc]
    by_cases h1 : i < 1
    · have hd : decide (i < 1) = true := by simpa using h1
      go_enter Try.func36, Try.ntmps36
      go_wp2
      go_ret
      exact ⟨rfl, Below.refl _ _⟩
    · have h2 : 60 < i := by omega
      have hd : decide (i < 1) = false := by simpa using h1
      have hd2 : decide (60 < i) = true := by simpa using h2
      go_enter Try.func36, Try.ntmps36
      go_wp2
      go_ret
      exact ⟨rfl, Below.refl _ _⟩
  · obtain ⟨M, rfl⟩ : ∃ M : Nat, i = M := ⟨i.toNat, by omega⟩
    have h1 : 1 ≤ M := by omega
    have h2 : M ≤ 60 := by omega
    rw [conI_in rfl h1 h2]
    have hd : decide ((M : Int) < 1) = false := by simp; omega
    have hd2 : decide (60 < (M : Int)) = false := by simp; omega
    go_enter Try.func36, Try.ntmps36
    go_wp2
    go_loopw [3, 4] (fun v3 v4 wr => ∃ (k n : Nat), k < M ∧ n = k + 1 ∧ v3 = .int .u8 (powI 2 k) ∧ v4 = .int .i64 n ∧ Below w.heap.size w wr) (fun _ v4 _ => M - (intOf v4).toNat)
    case atStart => exact ⟨0, 1, by omega, rfl, rfl, rfl, Below.refl _ _⟩
    case round =>
      obtain ⟨k, n, hk, hn, rfl, rfl, hbel⟩ := hrel
      have HL := Lib.hid hbel; clear hbel
      have pb := powI_bd (b := 2) k
      by_cases hz : n < M
      · have hn' : k + 1 < M := by omega
        have HN := Lib.hid hn; clear hn
        go_wp2_with (go_at_call 46; refine (refMul_any _ _ pb.1 pb.2 (by omega) (by omega) _).mono ?_; rintro e w' ⟨rfl, hb⟩)
        go_roundw
        case rel => exact ⟨k + 1, n + 1, hn', by rw [HN.out], rfl, by go_num, HL.out.trans (hb.mono HL.out.size)⟩
        case measure => simp [intOf]; omega
      · obtain rfl : n = M := by omega
        have e := Lib.hid (show k = n - 1 by omega)
        clear hn
        have ht : decide ((n : Int) < (n : Int)) = false := by simp
        go_wp2
        go_ret
        rw [e.out]; exact ⟨rfl, HL.out⟩
end Go.Proofs.Ytilfjmpoiiepkaa

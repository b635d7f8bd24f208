/- The contracts of bits.Len, pdqsortOrdered, Sort and Compact over at most five rising ints: nothing is moved. Conditions: the ints lie in memory, rising. -/
import Derived.Test.YtfnkdmdcjliebaaRvSort
namespace Go.Proofs.Ytfnkdmdcjliebaa
open Go.ChangeShapes Go.WideShapes Go.ChangeAt Go.RowKit
set_option linter.unusedVariables false
set_option linter.unusedSimpArgs false
attribute [local go_sem] Oper.semAt_some
set_option maxRecDepth 100000 in
set_option maxHeartbeats 2000000 in
theorem Len64_any {n : Nat} (hn : n ≤ 5) (w : World) : Calls Try.prog 90 #[.int .u64 n] w fun e w' => (∃ l : Int, e = .returned (.int .i64 l)) ∧ w' = w := by
  obtain rfl | rfl | rfl | rfl | rfl | rfl : n = 0 ∨ n = 1 ∨ n = 2 ∨ n = 3 ∨ n = 4 ∨ n = 5 := by omega
  all_goals
    go_enter Try.func90, Try.ntmps90
    go_wp2
    go_ret
    exact ⟨⟨_, rfl⟩, rfl⟩
set_option maxRecDepth 100000 in
set_option maxHeartbeats 2000000 in
theorem Len_any {n : Nat} (hn : n ≤ 5) (w : World) : Calls Try.prog 76 #[.int .u64 n] w fun e w' => (∃ l : Int, e = .returned (.int .i64 l)) ∧ w' = w := by
  have HL := Lib.hid (Len64_any hn)
  clear hn
  go_enter Try.func76, Try.ntmps76
  go_wp2_with (first
    | (go_at_call 90
       refine (HL.out _).mono ?_; rintro e w2 ⟨⟨l, rfl⟩, rfl⟩))
  go_ret
  exact ⟨⟨_, rfl⟩, rfl⟩
set_option maxRecDepth 100000 in
set_option maxHeartbeats 4000000 in
theorem pdq_any {w : World} {B o n c : Nat} {L : List Int} (h : RiseB w B o L) (hn : L.length = n) (l : Int) :
    Calls Try.prog 75 #[.slice (some ⟨B, o, none⟩) n c, .int .i64 0, .int .i64 n, .int .i64 l] w fun e w' => e = .returned (.tuple #[]) ∧ Below w.heap.size w w' := by
  have HL := Lib.hid (show n ≤ 12 from hn ▸ h.few)
  have HI := Lib.hid (insertion_any (c := c) h hn)
  have f1 : (n : Int) ≤ 12 := by have := HL.out; omega
  have f2 : IntKind.i64.wrap (n : Int) = (n : Int) := by have := HL.out; rw [IntWalk.i64_in _ (by omega)]
  clear h hn
  go_enter Try.func75, Try.ntmps75
  go_wp2
  go_loopw [1, 2] (fun v1 v2 wr => v1 = .int .i64 0 ∧ v2 = .int .i64 n ∧ wr = w) (fun _ _ _ => 0)
  case atStart => exact ⟨rfl, rfl, rfl⟩
  case round =>
    obtain ⟨rfl, rfl, rfl⟩ := hrel
    go_wp2_with (first
      | (go_at_call 80
         refine HI.out.mono ?_; rintro e w2 ⟨rfl, hb2⟩
         have B2 := Lib.hid hb2
         clear hb2))
    refine bodyPost_ret (results_none rfl _ _ _) rfl ?_
    exact ⟨rfl, B2.out⟩
set_option maxRecDepth 100000 in
set_option maxHeartbeats 4000000 in
theorem Sort_any {w : World} {B o n c : Nat} {L : List Int} (h : RiseB w B o L) (hn : L.length = n) (h5 : n ≤ 5) :
    Calls Try.prog 60 #[.slice (some ⟨B, o, none⟩) n c] w fun e w' => e = .returned (.tuple #[]) ∧ Below w.heap.size w w' := by
  have HP := Lib.hid (fun l => pdq_any (c := c) h hn l)
  have HL := Lib.hid (Len_any h5)
  have f2 : IntKind.u64.wrap (n : Int) = (n : Int) := by simp [IntKind.wrap, IntKind.bits, IntKind.signed]; omega
  clear h hn h5
  go_enter Try.func60, Try.ntmps60
  go_wp2_with (first
    | (go_at_call 76
       refine (HL.out _).mono ?_; rintro e w2 ⟨⟨l, rfl⟩, rfl⟩)
    | (go_at_call 75
       refine (HP.out _).mono ?_; rintro e w2 ⟨rfl, hb2⟩
       have B2 := Lib.hid hb2
       clear hb2))
  go_end0
  exact ⟨rfl, B2.out⟩
set_option maxRecDepth 100000 in
set_option maxHeartbeats 4000000 in
theorem Compact_any {w : World} {B o n c : Nat} {L : List Int} (h : RiseB w B o L) (hn : L.length = n) :
    Calls Try.prog 61 #[.slice (some ⟨B, o, none⟩) n c] w fun e w' => e = .returned (.slice (some ⟨B, o, none⟩) n c) ∧ Below w.heap.size w w' := by
  have HL := Lib.hid (show n ≤ 12 from hn ▸ h.few)
  have HC := Lib.hid (fun (k : Nat) (hk : k < n) (W : World) (hb : Below w.heap.size w W) => (h.below hb).cell k (by omega))
  have HR := Lib.hid (fun (k : Nat) (hk : k + 1 < n) => rise_at h.rise (k := k) (by omega))
  clear h hn
  go_enter Try.func61, Try.ntmps61
  by_cases h2 : n < 2
  · have f0 : (n : Int) < 2 := by omega
    clear h2
    go_wp2
    go_ret
    exact ⟨rfl, Below.refl _ _⟩
  · have f0 : ¬ (n : Int) < 2 := by omega
    have H2 := Lib.hid h2
    clear h2
    go_wp2
    clear f0
    go_loopw [3] (fun v3 wr => ∃ i : Nat, 1 ≤ i ∧ i ≤ n ∧ v3 = .int .i64 i ∧ Below w.heap.size w wr) (fun v3 _ => n - (intOf v3).toNat)
    case atStart => exact ⟨1, Nat.le_refl _, by have := H2.out; omega, rfl, Below.refl _ _⟩
    case round =>
      obtain ⟨i, hi1, hi, rfl, hb⟩ := hrel
      by_cases hlt : i < n
      · have f1 : (i : Int) < (n : Int) := by omega
        have HB := Lib.hid hb
        have HLT := Lib.hid hlt
        have f3 : IntKind.i64.wrap ((i : Int) + 1) = ((i + 1 : Nat) : Int) := by have := HL.out; rw [IntWalk.i64_in _ (by omega)]; omega
        have f4 : IntKind.i64.wrap ((i : Int) - 1) = ((i - 1 : Nat) : Int) := by have := HL.out; rw [IntWalk.i64_in _ (by omega)]; omega
        have e1 := HC.out i hlt wr hb
        have e2 := HC.out (i - 1) (by omega) wr hb
        have e3 := HR.out (i - 1) (by omega)
        rw [show i - 1 + 1 = i by omega] at e3
        generalize L.getD i 0 = x at *
        generalize L.getD (i - 1) 0 = y at *
        have g3 : ((i - 1 : Nat) : Int) < (n : Int) := by omega
        have g4 : (x == y) = false := beq_eq_false_iff_ne.2 (by omega)
        have g5 : decide (x = y) = false := by simp; omega
        have g6 : x ≠ y := by omega
        generalize hj : i - 1 = j at *
        clear hlt hi1 hi hb HC HR hj e3
        go_wp2
        go_quiet (fail)
        have BD := Lib.hid (below_drawn HB.out nq)
        generalize wr.drewN nq = wd at *
        go_wp2
        go_roundw
        case rel => exact ⟨i + 1, by omega, HLT.out, by go_num, BD.out⟩
        case measure => have := HLT.out; simp [intOf]; omega
      · have f1 : ¬ (i : Int) < (n : Int) := by omega
        have HB := Lib.hid hb
        clear hlt hi hi1 hb
        go_wp2
        go_ret
        exact ⟨rfl, HB.out⟩
end Go.Proofs.Ytfnkdmdcjliebaa

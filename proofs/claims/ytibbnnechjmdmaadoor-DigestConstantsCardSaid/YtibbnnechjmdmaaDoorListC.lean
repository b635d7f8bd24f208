/- The contract of package citadelref04's list: a number's three places. It writes nothing that was there. Condition: the number fits 64 bits. -/
import Derived.Test.YtibbnnechjmdmaaDoorU64S
import Derived.Great.BuildSlice
import Derived.Lib.Hide
import Derived.StillTailTactics
namespace Go.Proofs.YtibbnnechjmdmaaDoor
open Go.ChangeShapes Go.WideShapes Go.ChangeAt Go.RowKit

set_option maxRecDepth 100000 in
set_option maxHeartbeats 1000000 in
theorem list_any (n : Nat) (hn : n < 18446744073709551616) (w : World) :
    Calls Tryd.prog 35 #[.int .u64 n] w fun e w' => e = .returned (.slice (some ⟨w.heap.size, 0, none⟩) 3 3) ∧ IntBlk w' w.heap.size .u64 54 (mk 3 (limb n)) ∧ Below w.heap.size w w' := by
  have HL : Hid (mk 3 (limb n) = [((n % 65536 : Nat) : Int), ((n / 65536 % 65536 : Nat) : Int), ((n / 4294967296 % 65536 : Nat) : Int)]) := Lib.hid rfl
  obtain ⟨x0, h0⟩ : ∃ x, n % 65536 = x := ⟨_, rfl⟩
  obtain ⟨y1, g1⟩ : ∃ x, n / 65536 = x := ⟨_, rfl⟩
  obtain ⟨y2, g2⟩ : ∃ x, n / 4294967296 = x := ⟨_, rfl⟩
  obtain ⟨x1, h1⟩ : ∃ x, y1 % 65536 = x := ⟨_, rfl⟩
  obtain ⟨x2, h2⟩ : ∃ x, y2 % 65536 = x := ⟨_, rfl⟩
  rw [h0, g1, g2, h1, h2] at HL
  have t0 : (n : Int).tmod 65536 = (x0 : Int) := by rw [Int.tmod_eq_emod_of_nonneg (by omega)]; omega
  have t1 : (y1 : Int).tmod 65536 = (x1 : Int) := by rw [Int.tmod_eq_emod_of_nonneg (by omega)]; omega
  have t2 : (y2 : Int).tmod 65536 = (x2 : Int) := by rw [Int.tmod_eq_emod_of_nonneg (by omega)]; omega
  have d1 : IntKind.u64.wrap ((n : Int) / 65536) = (y1 : Int) := by rw [IntWalk.u64_in _ (by omega)]; omega
  have d2 : IntKind.u64.wrap ((n : Int) / 4294967296) = (y2 : Int) := by rw [IntWalk.u64_in _ (by omega)]; omega
  have d1' : IntKind.u64.wrap ((n : Int).tdiv 65536) = (y1 : Int) := by rw [Int.tdiv_eq_ediv_of_nonneg (by omega)]; exact d1
  have d2' : IntKind.u64.wrap ((n : Int).tdiv 4294967296) = (y2 : Int) := by rw [Int.tdiv_eq_ediv_of_nonneg (by omega)]; exact d2
  clear h0 g1 g2 h1 h2 hn
  go_enter Tryd.func35, Tryd.ntmps35
  go_wp2_with (first
    | (refine wpList_buildFlat rfl 51 54 3 _ rfl .u64 [(x0 : Int), (x1 : Int), (x2 : Int)] wordsUnder64 wordInfo64 (by rw [wordZero64]; rfl) rfl (by omega) (by omega) rfl ?_)
    | fail)
  go_ret
  exact ⟨rfl, by rw [HL.out]; exact IntBlk.new w .u64 54 [(x0 : Int), (x1 : Int), (x2 : Int)], (Below.refl _ w).alloc (Nat.le_refl _) _⟩
end Go.Proofs.YtibbnnechjmdmaaDoor

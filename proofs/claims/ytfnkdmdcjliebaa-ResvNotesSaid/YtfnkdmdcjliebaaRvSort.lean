/- The contracts of the library's Less, insertionSortOrdered, pdqsortOrdered, Sort and Compact over at most twelve rising ints: nothing is moved. Conditions: the ints lie in memory, rising. -/
import Derived.Test.YtfnkdmdcjliebaaRvForm
import Derived.Test.YtfnkdmdcjliebaaRvWout
namespace Go.Proofs.Ytfnkdmdcjliebaa
open Go.ChangeShapes Go.WideShapes Go.ChangeAt Go.RowKit
set_option linter.unusedVariables false
set_option linter.unusedSimpArgs false
theorem below_drawn {M : Nat} {a w : World} (h : Below M a w) (n : Nat) : Below M a (w.drewN n) := ⟨h.os, h.tape, h.output, h.size, h.block⟩
attribute [local go_sem] Oper.semAt_some
theorem Less_any (x y : Int) (w : World) : Calls Try.prog 86 #[.int .i64 x, .int .i64 y] w fun e w' => e = .returned (.bool (decide (x < y))) ∧ w' = w := by
  go_enter Try.func86, Try.ntmps86
  go_wp2
  go_ret
  exact ⟨rfl, rfl⟩
/-- Rising ints in a block. -/
structure RiseB (w : World) (B o : Nat) (L : List Int) : Prop where
  cell : ∀ k, k < L.length → w.cell? ⟨B, o + k, none⟩ = some (.int .i64 (L.getD k 0))
  lt : L ≠ [] → B < w.heap.size
  rise : L.Pairwise (· < ·)
  few : L.length ≤ 12
theorem RiseB.below {w w' : World} {B o : Nat} {L : List Int} (h : RiseB w B o L) (hb : Below w.heap.size w w') : RiseB w' B o L :=
  ⟨fun k hk => (hb.cell (p := ⟨B, o + k, none⟩) (h.lt (by rintro rfl; exact absurd hk (by simp)))).trans (h.cell k hk), fun hn => Nat.lt_of_lt_of_le (h.lt hn) hb.size, h.rise, h.few⟩
theorem rise_at {L : List Int} (h : L.Pairwise (· < ·)) {k : Nat} (hk : k + 1 < L.length) : L.getD k 0 < L.getD (k + 1) 0 := by
  rw [List.getD_eq_getElem?_getD, List.getD_eq_getElem?_getD, List.getElem?_eq_getElem hk, List.getElem?_eq_getElem (show k < L.length by omega)]
  exact List.pairwise_iff_getElem.1 h k (k + 1) (by omega) hk (by omega)
set_option maxRecDepth 100000 in
set_option maxHeartbeats 4000000 in
theorem insertion_any {w : World} {B o n c : Nat} {L : List Int} (h : RiseB w B o L) (hn : L.length = n) :
    Calls Try.prog 80 #[.slice (some ⟨B, o, none⟩) n c, .int .i64 0, .int .i64 n] w fun e w' => e = .returned (.tuple #[]) ∧ Below w.heap.size w w' := by
  have HL := Lib.hid (show n ≤ 12 from hn ▸ h.few)
  have HC := Lib.hid (fun (k : Nat) (hk : k < n) (W : World) (hb : Below w.heap.size w W) => (h.below hb).cell k (by omega))
  have HR := Lib.hid (fun (k : Nat) (hk : k + 1 < n) => rise_at h.rise (k := k) (by omega))
  clear h hn
  go_enter Try.func80, Try.ntmps80
  go_wp2
  go_loopw [6, 7] (fun v6 _ wr => ∃ i : Nat, 1 ≤ i ∧ i ≤ 13 ∧ v6 = .int .i64 i ∧ Below w.heap.size w wr) (fun v6 _ _ => 13 - (intOf v6).toNat)
  case atStart => exact ⟨1, Nat.le_refl _, by omega, rfl, Below.refl _ _⟩
  case round =>
    obtain ⟨i, hi1, hi, rfl, hb⟩ := hrel
    by_cases hlt : i < n
    · have f1 : (i : Int) < (n : Int) := by omega
      have HB := Lib.hid hb
      have HLT := Lib.hid hlt
      have HI1 := Lib.hid hi1
      have f3 : IntKind.i64.wrap ((i : Int) + 1) = ((i + 1 : Nat) : Int) := by rw [IntWalk.i64_in _ (by omega)]; omega
      have f4 : IntKind.i64.wrap ((i : Int) - 1) = ((i - 1 : Nat) : Int) := by rw [IntWalk.i64_in _ (by omega)]; omega
      have e1 := HC.out i hlt wr hb
      have e2 := HC.out (i - 1) (by omega) wr hb
      have e3 := HR.out (i - 1) (by omega)
      rw [show i - 1 + 1 = i by omega] at e3
      generalize L.getD i 0 = x at *
      generalize L.getD (i - 1) 0 = y at *
      have g1 : (0 : Int) < (i : Int) := by omega
      have g2 : decide ((0 : Int) < (i : Int)) = true := by simp; omega
      have g5 : decide (0 < i) = true := by simp; omega
      have g3 : ((i - 1 : Nat) : Int) < (n : Int) := by omega
      have g4 : decide (x < y) = false := by simp; omega
      generalize hj : i - 1 = j at *
      clear hlt hi1 hi hb HC HR hj
      go_wp2
      go_loopw [7] (fun v7 wr2 => v7 = .int .i64 i ∧ wr2 = wr) (fun _ _ => 0)
      case atStart => exact ⟨rfl, rfl⟩
      case round =>
        obtain ⟨rfl, rfl⟩ := hrel
        go_wp2
        go_quiet (first | (go_at_call 86; refine Calls.quiet_of_same (Less_any _ _ _)))
        have BD := Lib.hid (below_drawn HB.out nq)
        generalize wr.drewN nq = wd at *
        go_wp2
        go_roundw
        case rel => exact ⟨i + 1, by have := HI1.out; omega, by have := HLT.out; have := HL.out; omega, by go_num, BD.out⟩
        case measure => have := HLT.out; have := HL.out; simp [intOf]; omega
    · have f1 : ¬ (i : Int) < (n : Int) := by omega
      have HB := Lib.hid hb
      clear hlt hi hi1 hb
      go_wp2
      go_end0
      exact ⟨rfl, HB.out⟩
end Go.Proofs.Ytfnkdmdcjliebaa

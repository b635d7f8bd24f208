/- The contract of package mac's numbered: a number's four bytes, the highest first; and of Stream. Conditions: the number is from 0 to 2^31; the package's variable holds the constants; the key has no more than 100000 bytes. -/
import Derived.Test.YtfjbehobpkmjbaaDoorLabC
namespace Go.Proofs.YtfjbehobpkmjbaaDoor
open Go.ChangeShapes Go.WideShapes Go.ChangeAt Go.RowKit
set_option linter.unusedVariables false

def numTo (i k : Nat) : Nat → Nat := fun j => if 4 - k ≤ j then numB i j else 0
theorem numTo_zero (i : Nat) : mk 4 (numTo i 0) = mk 4 zeroK := mk_ext fun j hj => if_neg (by omega)
theorem numTo_end (i : Nat) : mk 4 (numTo i 4) = mk 4 (numB i) := mk_ext fun j hj => if_pos (by omega)
theorem numTo_step (i k : Nat) (hk : k < 4) {v : Int} (hv : v = (numB i (3 - k) : Nat)) : (mk 4 (numTo i k)).set (3 - k) v = mk 4 (numTo i (k + 1)) :=
  mk_set_is hv fun j hj => by
    unfold numTo
    by_cases e : j = 3 - k
    · subst e; rw [if_pos rfl, if_pos (by omega)]
    · rw [if_neg e]
      by_cases h2 : 4 - k ≤ j
      · rw [if_pos h2, if_pos (by omega)]
      · rw [if_neg h2, if_neg (by omega)]
theorem numB_shift (i k y : Nat) (hk : k < 4) (hy : 8 * k = y) : IntKind.u8.wrap ((i : Int) / 2 ^ y) = (numB i (3 - k) : Nat) := by
  have p : ((2 : Int) ^ y) = ((2 ^ y : Nat) : Int) := by rw [Int.natCast_pow]; rfl
  rw [IntKind.wrap_u8', p, ← Int.natCast_ediv]
  unfold numB
  have e : 256 ^ (3 - (3 - k)) = 2 ^ y := by
    subst hy
    rw [show 3 - (3 - k) = k by omega, show (256 : Nat) = 2 ^ 8 from rfl, ← Nat.pow_mul]
  rw [e]; omega
attribute [local irreducible] numB digF pieK

set_option maxRecDepth 100000 in
theorem numbered_any (i : Nat) (hi : i ≤ 2147483648) (w : World) :
    Calls Tryd.prog 30 #[.int .i64 i] w fun e w' => e = .returned (.slice (some ⟨w.heap.size, 0, none⟩) 4 4) ∧ IntBlk w' w.heap.size .u8 5 (mk 4 (numB i)) ∧ Below w.heap.size w w' := by
  have hz : IntBlk (w.alloc (.cells (cellsOf .u8 (mk 4 zeroK)) 5)) w.heap.size .u8 5 (mk 4 (numTo i 0)) := by rw [numTo_zero]; exact IntBlk.new w .u8 _ (mk 4 zeroK)
  have HZ := Lib.hid hz
  clear hz
  go_enter Tryd.func30, Tryd.ntmps30
  go_wp2_with (refine wpList_make_noughts rfl _ _ rfl 4 (by omega) rfl rfl ?_)
  go_loopw [8] (fun v wr => ∃ k : Nat, k ≤ 4 ∧ v = .int .i64 k ∧ IntBlk wr w.heap.size .u8 5 (mk 4 (numTo i k)) ∧ Below w.heap.size w wr) (fun v _ => 4 - (intOf v).toNat)
  case atStart => exact ⟨0, by omega, rfl, HZ.out, (Below.refl _ w).alloc (Nat.le_refl _) _⟩
  case round =>
    clear HZ
    obtain ⟨k, hk, rfl, hz, hb⟩ := hrel
    by_cases h : k < 4
    · have e1 : (k : Int) < 4 := by omega
      obtain ⟨y, hy⟩ : ∃ y, 8 * k = y := ⟨_, rfl⟩
      obtain ⟨d, hd⟩ : ∃ d, 3 - k = d := ⟨_, rfl⟩
      have sv := numB_shift i k y h hy
      have hs := numTo_step i k h rfl
      rw [hd] at sv hs
      have HS := Lib.hid hs
      have cs := hz.cell (i := d) (by rw [mk_len]; omega)
      have fs := hz.free d
      have p1 : IntKind.i64.wrap (3 - (k : Int)) = (d : Int) := by rw [IntWalk.i64_in _ (by omega)]; omega
      have p2 : IntKind.i64.wrap (8 * (k : Int)) = (y : Int) := by rw [IntWalk.i64_in _ (by omega)]; omega
      have p3 : 3 - (k : Int) = (d : Int) := by omega
      have p4 : 8 * (k : Int) = (y : Int) := by omega
      have l0 : (0 : Int) ≤ d := by omega
      have l1 : (d : Int) < 4 := by omega
      have l2 : (0 : Int) ≤ y := by omega
      have l3 : (y : Int) ≤ 24 := by omega
      have HZ := Lib.hid hz; have HB := Lib.hid hb
      clear hz hb hy hd hs
      generalize numB i d = ov at *
      go_wp2
      go_roundw
      case rel => exact ⟨k + 1, by omega, by go_num, by rw [← HS.out]; exact HZ.out.set d _, HB.out.setCell (Nat.le_refl _) _⟩
      case measure => simp [intOf]; omega
    · have e1 : k = 4 := by omega
      have hd1 : decide ((k : Int) < 4) = false := by simp; omega
      rw [e1, numTo_end] at hz
      have HZ := Lib.hid hz; have HB := Lib.hid hb
      clear hz hb e1 h
      go_wp2
      go_ret
      exact ⟨rfl, HZ.out, HB.out⟩
end Go.Proofs.YtfjbehobpkmjbaaDoor

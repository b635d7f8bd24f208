/- The contract of package digest's Pad: what is put behind a text, in memory of its own. It writes nothing that was there. No condition. -/
import Derived.Test.YtfjbehobpkmjbaaDoorMake
import Derived.Test.YtfjbehobpkmjbaaDoorRowsS
namespace Go.Proofs.YtfjbehobpkmjbaaDoor
open Go.ChangeShapes Go.WideShapes Go.ChangeAt Go.RowKit

/-- The length that Pad goes by. -/
def effN (n : Int) : Nat := if n < 0 ∨ 1099511627776 < n then 0 else n.toNat
theorem effN_le (n : Int) : effN n ≤ 1099511627776 := by unfold effN; split <;> omega
/-- With so many of the eight bytes laid. -/
def padT (n i : Nat) : Nat → Nat := fun j => if j = 0 then 128 else if padL n - i ≤ j then n * 8 / 256 ^ (padL n - 1 - j) % 256 else 0
theorem padT_start (n : Nat) : upd zeroK 0 128 = padT n 0 ∨ mk (padL n) (upd zeroK 0 128) = mk (padL n) (padT n 0) := .inr (mk_ext fun j hj => by
  unfold upd padT zeroK
  split
  · rfl
  · rw [if_neg (by omega)])
theorem padT_first (n : Nat) : (mk (padL n) zeroK).set 0 128 = mk (padL n) (padT n 0) :=
  mk_set_is (v := 128) rfl fun j hj => by
    unfold padT zeroK
    split
    · rfl
    · rw [if_neg (by omega)]
theorem padT_step (n i : Nat) (hi : i < 8) {v : Int} (hv : v = (n * 8 / 256 ^ i % 256 : Nat)) : (mk (padL n) (padT n i)).set (padL n - 1 - i) v = mk (padL n) (padT n (i + 1)) :=
  mk_set_is hv fun j hj => by
    have := padL_bd n
    unfold padT
    by_cases h0 : j = 0
    · subst h0; rw [if_neg (by omega)]; rfl
    · by_cases e : j = padL n - 1 - i
      · rw [if_pos e, if_neg h0, if_pos (by omega), show padL n - 1 - j = i by omega]
      · rw [if_neg e, if_neg h0, if_neg h0]
        by_cases h1 : padL n - i ≤ j
        · rw [if_pos h1, if_pos (by omega)]
        · rw [if_neg h1, if_neg (by omega)]
theorem padT_end (n : Nat) : mk (padL n) (padT n 8) = mk (padL n) (padB n) := mk_ext fun j hj => by
  have := padL_bd n
  unfold padT padB
  split
  · rfl
  · by_cases h : j < padL n - 8
    · rw [if_neg (by omega), if_pos h]
    · rw [if_pos (by omega), if_neg h]
theorem padL_zero : padL 0 = 64 := by decide
attribute [local irreducible] padT padB padL

theorem shr_byte {c i y : Nat} (hy : 8 * i = y) : IntKind.u8.wrap ((c : Int) / 2 ^ y) = (c / 256 ^ i % 256 : Nat) := by
  have p : ((2 : Int) ^ y) = ((2 ^ y : Nat) : Int) := by rw [Int.natCast_pow]; rfl
  rw [IntKind.wrap_u8', p, ← Int.natCast_ediv, ← hy, Nat.pow_mul]
  show _ = ((c / (2 ^ 8) ^ i % 256 : Nat) : Int)
  omega

set_option maxRecDepth 100000 in
set_option maxHeartbeats 2000000 in
theorem Pad_low (n : Int) (L M : Nat) (hn : n < 0) (hM : M = 0) (hLe : padL M = L) (w : World) :
    Calls Tryd.prog 48 #[.int .i64 n] w fun e w' => e = .returned (.slice (some ⟨w.heap.size, 0, none⟩) L L) ∧ IntBlk w' w.heap.size .u8 5 (mk L (padB M)) ∧ Below w.heap.size w w' := by
  have hL := padL_bd M
  have HF := Lib.hid (padT_first M)
  have HS := Lib.hid (padT_step M)
  have HE := Lib.hid (padT_end M)
  have hX : (64 : Int) = (L : Int) := by rw [← hLe, hM, padL_zero]; rfl
  subst hM
  have e0 : n < 0 := hn
  rw [hLe] at HF HS HE hL
  have HX := Lib.hid hX
  clear hX hLe
  have hb0 := (IntBlk.new w .u8 5 (mk L zeroK))
  have hbel : Below w.heap.size w (w.alloc (.cells (cellsOf .u8 (mk L zeroK)) 5)) := (Below.refl _ w).alloc (Nat.le_refl _) _
  have c0 := hb0.cell (i := 0) (by rw [mk_len]; omega)
  have f0 := hb0.free 0
  have HB0 := Lib.hid hb0
  have HBL := Lib.hid hbel
  have l0 : (0 : Int) < L := by omega
  have l1 : L ≤ 100000 := by omega
  clear hb0 hbel
  go_enter Tryd.func48, Tryd.ntmps48
  go_wp2_with (refine wpList_make_noughts rfl _ _ rfl L l1 (congrArg (Value.int .i64) HX.out) (congrArg (Value.int .i64) HX.out) ?_)
  go_loopw [29] (fun v wr => ∃ i : Nat, i ≤ 8 ∧ v = .int .i64 i ∧ IntBlk wr w.heap.size .u8 5 (mk L (padT 0 i)) ∧ Below w.heap.size w wr) (fun v _ => 8 - (intOf v).toNat)
  case atStart => exact ⟨0, by omega, rfl, by rw [cellsOf_set, HF.out]; exact IntBlk.new w .u8 5 _, (Below.refl _ w).alloc (Nat.le_refl _) _⟩
  case round =>
    clear HB0 HBL c0 f0 HX
    obtain ⟨i, hi, rfl, hb, hw⟩ := hrel
    have HB := Lib.hid hb
    have HW := Lib.hid hw
    by_cases h8 : i < 8
    · have e1 : (i : Int) < 8 := by omega
      have HV := Lib.hid (HS.out i h8 rfl)
      obtain ⟨j, hj⟩ : ∃ j, L - 1 - i = j := ⟨_, rfl⟩
      obtain ⟨y, hy⟩ : ∃ y, 8 * i = y := ⟨_, rfl⟩
      rw [hj] at HV
      have cj := hb.cell (i := j) (by rw [mk_len]; omega)
      have fj := hb.free j
      have sv : 0 * 8 / 256 ^ i % 256 = 0 := by rw [Nat.zero_mul, Nat.zero_div]
      rw [sv] at HV
      clear sv
      have p1 : IntKind.i64.wrap ((L : Int) - 1) = (L : Int) - 1 := IntWalk.i64_in _ (by omega)
      have p2 : IntKind.i64.wrap ((L : Int) - 1 - (i : Int)) = (j : Int) := by rw [IntWalk.i64_in _ (by omega)]; omega
      have p3 : IntKind.i64.wrap (8 * (i : Int)) = (y : Int) := by rw [IntWalk.i64_in _ (by omega)]; omega
      have l2 : (0 : Int) ≤ j := by omega
      have l3 : (j : Int) < L := by omega
      have l4 : (0 : Int) ≤ y := by omega
      have l5 : (y : Int) ≤ 64 := by omega
      clear hb hw hj hy
      go_wp2
      go_roundw
      case rel => exact ⟨i + 1, by omega, by go_num, by rw [← HV.out]; exact HB.out.set j _, HW.out.setCell (Nat.le_refl _) _⟩
      case measure => simp [intOf]; omega
    · obtain rfl : i = 8 := by omega
      have hd1 : decide (((8 : Nat) : Int) < 8) = false := rfl
      clear hb hw
      go_wp2
      go_ret
      exact ⟨rfl, by rw [← HE.out]; exact HB.out, HW.out⟩

set_option maxRecDepth 100000 in
set_option maxHeartbeats 2000000 in
theorem Pad_high (n : Int) (L M : Nat) (hn : 1099511627776 < n) (hM : M = 0) (hLe : padL M = L) (w : World) :
    Calls Tryd.prog 48 #[.int .i64 n] w fun e w' => e = .returned (.slice (some ⟨w.heap.size, 0, none⟩) L L) ∧ IntBlk w' w.heap.size .u8 5 (mk L (padB M)) ∧ Below w.heap.size w w' := by
  have hL := padL_bd M
  have HF := Lib.hid (padT_first M)
  have HS := Lib.hid (padT_step M)
  have HE := Lib.hid (padT_end M)
  have hX : (64 : Int) = (L : Int) := by rw [← hLe, hM, padL_zero]; rfl
  subst hM
  have e0 : ¬ n < 0 := by omega
  rw [hLe] at HF HS HE hL
  have HX := Lib.hid hX
  clear hX hLe
  have hb0 := (IntBlk.new w .u8 5 (mk L zeroK))
  have hbel : Below w.heap.size w (w.alloc (.cells (cellsOf .u8 (mk L zeroK)) 5)) := (Below.refl _ w).alloc (Nat.le_refl _) _
  have c0 := hb0.cell (i := 0) (by rw [mk_len]; omega)
  have f0 := hb0.free 0
  have HB0 := Lib.hid hb0
  have HBL := Lib.hid hbel
  have l0 : (0 : Int) < L := by omega
  have l1 : L ≤ 100000 := by omega
  clear hb0 hbel
  go_enter Tryd.func48, Tryd.ntmps48
  go_wp2_with (refine wpList_make_noughts rfl _ _ rfl L l1 (congrArg (Value.int .i64) HX.out) (congrArg (Value.int .i64) HX.out) ?_)
  go_loopw [29] (fun v wr => ∃ i : Nat, i ≤ 8 ∧ v = .int .i64 i ∧ IntBlk wr w.heap.size .u8 5 (mk L (padT 0 i)) ∧ Below w.heap.size w wr) (fun v _ => 8 - (intOf v).toNat)
  case atStart => exact ⟨0, by omega, rfl, by rw [cellsOf_set, HF.out]; exact IntBlk.new w .u8 5 _, (Below.refl _ w).alloc (Nat.le_refl _) _⟩
  case round =>
    clear HB0 HBL c0 f0 HX
    obtain ⟨i, hi, rfl, hb, hw⟩ := hrel
    have HB := Lib.hid hb
    have HW := Lib.hid hw
    by_cases h8 : i < 8
    · have e1 : (i : Int) < 8 := by omega
      have HV := Lib.hid (HS.out i h8 rfl)
      obtain ⟨j, hj⟩ : ∃ j, L - 1 - i = j := ⟨_, rfl⟩
      obtain ⟨y, hy⟩ : ∃ y, 8 * i = y := ⟨_, rfl⟩
      rw [hj] at HV
      have cj := hb.cell (i := j) (by rw [mk_len]; omega)
      have fj := hb.free j
      have sv : 0 * 8 / 256 ^ i % 256 = 0 := by rw [Nat.zero_mul, Nat.zero_div]
      rw [sv] at HV
      clear sv
      have p1 : IntKind.i64.wrap ((L : Int) - 1) = (L : Int) - 1 := IntWalk.i64_in _ (by omega)
      have p2 : IntKind.i64.wrap ((L : Int) - 1 - (i : Int)) = (j : Int) := by rw [IntWalk.i64_in _ (by omega)]; omega
      have p3 : IntKind.i64.wrap (8 * (i : Int)) = (y : Int) := by rw [IntWalk.i64_in _ (by omega)]; omega
      have l2 : (0 : Int) ≤ j := by omega
      have l3 : (j : Int) < L := by omega
      have l4 : (0 : Int) ≤ y := by omega
      have l5 : (y : Int) ≤ 64 := by omega
      clear hb hw hj hy
      go_wp2
      go_roundw
      case rel => exact ⟨i + 1, by omega, by go_num, by rw [← HV.out]; exact HB.out.set j _, HW.out.setCell (Nat.le_refl _) _⟩
      case measure => simp [intOf]; omega
    · obtain rfl : i = 8 := by omega
      have hd1 : decide (((8 : Nat) : Int) < 8) = false := rfl
      clear hb hw
      go_wp2
      go_ret
      exact ⟨rfl, by rw [← HE.out]; exact HB.out, HW.out⟩

set_option maxRecDepth 100000 in
set_option maxHeartbeats 2000000 in
theorem Pad_on (n : Int) (L M : Nat) (hn0 : 0 ≤ n) (hn : n ≤ 1099511627776) (hM : n = M) (hLe : padL M = L) (w : World) :
    Calls Tryd.prog 48 #[.int .i64 n] w fun e w' => e = .returned (.slice (some ⟨w.heap.size, 0, none⟩) L L) ∧ IntBlk w' w.heap.size .u8 5 (mk L (padB M)) ∧ Below w.heap.size w w' := by
  have hL := padL_bd M
  have HF := Lib.hid (padT_first M)
  have HS := Lib.hid (padT_step M)
  have HE := Lib.hid (padT_end M)
  have hX : 1 + -((n + 1 + 8) % 64) % 64 + 8 = (L : Int) := by rw [← hLe]; unfold padL; omega
  obtain ⟨c, hc⟩ : ∃ c, M * 8 = c := ⟨_, rfl⟩
  have q7 : IntKind.i64.wrap (n * 8) = (c : Int) := by rw [IntWalk.i64_in _ (by omega)]; omega
  rw [hc] at HS
  have e0 : ¬ n < 0 := by omega
  have e1 : ¬ 1099511627776 < n := by omega
  clear hc
  rw [hLe] at HF HS HE hL
  have HX := Lib.hid hX
  clear hX hLe hM
  have hb0 := (IntBlk.new w .u8 5 (mk L zeroK))
  have hbel : Below w.heap.size w (w.alloc (.cells (cellsOf .u8 (mk L zeroK)) 5)) := (Below.refl _ w).alloc (Nat.le_refl _) _
  have c0 := hb0.cell (i := 0) (by rw [mk_len]; omega)
  have f0 := hb0.free 0
  have HB0 := Lib.hid hb0
  have HBL := Lib.hid hbel
  have l0 : (0 : Int) < L := by omega
  have l1 : L ≤ 100000 := by omega
  clear hb0 hbel
  go_enter Tryd.func48, Tryd.ntmps48
  go_wp2_with (refine wpList_make_noughts rfl _ _ rfl L l1 (congrArg (Value.int .i64) HX.out) (congrArg (Value.int .i64) HX.out) ?_)
  go_loopw [29] (fun v wr => ∃ i : Nat, i ≤ 8 ∧ v = .int .i64 i ∧ IntBlk wr w.heap.size .u8 5 (mk L (padT M i)) ∧ Below w.heap.size w wr) (fun v _ => 8 - (intOf v).toNat)
  case atStart => exact ⟨0, by omega, rfl, by rw [cellsOf_set, HF.out]; exact IntBlk.new w .u8 5 _, (Below.refl _ w).alloc (Nat.le_refl _) _⟩
  case round =>
    clear HB0 HBL c0 f0 HX
    obtain ⟨i, hi, rfl, hb, hw⟩ := hrel
    have HB := Lib.hid hb
    have HW := Lib.hid hw
    by_cases h8 : i < 8
    · have e1 : (i : Int) < 8 := by omega
      have HV := Lib.hid (HS.out i h8 rfl)
      obtain ⟨j, hj⟩ : ∃ j, L - 1 - i = j := ⟨_, rfl⟩
      obtain ⟨y, hy⟩ : ∃ y, 8 * i = y := ⟨_, rfl⟩
      rw [hj] at HV
      have cj := hb.cell (i := j) (by rw [mk_len]; omega)
      have fj := hb.free j
      have sv := shr_byte (c := c) hy
      generalize c / 256 ^ i % 256 = v at *
      have p1 : IntKind.i64.wrap ((L : Int) - 1) = (L : Int) - 1 := IntWalk.i64_in _ (by omega)
      have p2 : IntKind.i64.wrap ((L : Int) - 1 - (i : Int)) = (j : Int) := by rw [IntWalk.i64_in _ (by omega)]; omega
      have p3 : IntKind.i64.wrap (8 * (i : Int)) = (y : Int) := by rw [IntWalk.i64_in _ (by omega)]; omega
      have l2 : (0 : Int) ≤ j := by omega
      have l3 : (j : Int) < L := by omega
      have l4 : (0 : Int) ≤ y := by omega
      have l5 : (y : Int) ≤ 64 := by omega
      clear hb hw hj hy
      go_wp2
      go_roundw
      case rel => exact ⟨i + 1, by omega, by go_num, by rw [← HV.out]; exact HB.out.set j _, HW.out.setCell (Nat.le_refl _) _⟩
      case measure => simp [intOf]; omega
    · obtain rfl : i = 8 := by omega
      have hd1 : decide (((8 : Nat) : Int) < 8) = false := rfl
      clear hb hw
      go_wp2
      go_ret
      exact ⟨rfl, by rw [← HE.out]; exact HB.out, HW.out⟩

theorem Pad_any (n : Int) (w : World) :
    Calls Tryd.prog 48 #[.int .i64 n] w fun e w' => e = .returned (.slice (some ⟨w.heap.size, 0, none⟩) (padL (effN n)) (padL (effN n))) ∧ IntBlk w' w.heap.size .u8 5 (mk (padL (effN n)) (padB (effN n))) ∧ Below w.heap.size w w' := by
  by_cases h0 : n < 0
  · exact Pad_low n _ _ h0 (by unfold effN; rw [if_pos (.inl h0)]) rfl w
  · by_cases h1 : 1099511627776 < n
    · exact Pad_high n _ _ h1 (by unfold effN; rw [if_pos (.inr h1)]) rfl w
    · exact Pad_on n _ _ (by omega) (by omega) (by unfold effN; rw [if_neg (by omega)]; omega) rfl w
end Go.Proofs.YtfjbehobpkmjbaaDoor

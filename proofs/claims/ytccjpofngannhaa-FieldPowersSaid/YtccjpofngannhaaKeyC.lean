/- The contracts of package field's Double, Halve and Xor: each answers the key that the plain functions say, and writes nothing that was there. Condition: the keys' bytes are bytes. -/
import Derived.Test.YtccjpofngannhaaRows
import Derived.Test.YtccjpofngannhaaKey
import Derived.Test.YtccjpofngannhaaArr
import Derived.WalkKit
import Derived.ProofKit
import Derived.OpenShut
import Derived.Lib.Hide
import Derived.StillTailTactics
import Derived.Outline
namespace Go.Proofs.Ytccjpofngannhaa
open Go.ChangeShapes Go.WideShapes Go.ChangeAt Go.RowKit

theorem byteElem : IntElem Try.prog 5 .u8 := ⟨Try.underlying5, by kernel_rfl⟩
theorem keyUnder : Try.prog.underlying 28 = some (.array 16 5) := Try.underlying28
theorem key_index (f : Nat → Nat) {i : Nat} (hi : i < 16) (W : World) : (Instr.index 28 (.agg (cellsOf .u8 (mk 16 f))) (.int .i64 i)).run Try.prog W = .ok (.int .u8 (f i)) W := by
  have := run_index_ints W (t := 28) (mk 16 f) (by rw [mk_len]; exact keyUnder) byteElem (i := i) (by rw [mk_len]; exact hi)
  rw [mk_get hi] at this; exact this
theorem key_get (f : Nat → Nat) {i : Nat} (hi : i < 16) : (cellsOf .u8 (mk 16 f))[i]? = some (.int .u8 (f i)) := by
  rw [cellsOf_get _ _ (by rw [mk_len]; exact hi), mk_get hi]
theorem keySize (f : Nat → Nat) : (Try.prog.info? 28).map (·.size) = some (cellsOf .u8 (mk 16 f)).size := by
  rw [cellsOf_size, mk_len]; kernel_rfl

set_option maxRecDepth 100000 in
set_option maxHeartbeats 1000000 in
theorem Double_any (f : Nat → Nat) (hf : IsKey f) (w : World) :
    Calls Try.prog 18 #[.agg (cellsOf .u8 (mk 16 f))] w fun e w' => e = .returned (.agg (cellsOf .u8 (mk 16 (dbl f)))) ∧ Below w.heap.size w w' := by
  go_enter Try.func18, Try.ntmps18
  go_wp2_with (refine wpList_load_row rfl 28 _ rfl w.heap.size rfl 28 (cellsOf .u8 (mk 16 f)) (0, 0) _ (((IntBlk.new w .u8 28 (mk 16 f)).alloc _).alloc _) keyUnder rfl (keySize f) ?_)
  go_loopw [4, 8] (fun v4 v8 wr => ∃ k : Nat, k ≤ 16 ∧ v4 = .int .u8 (carry f k : Nat) ∧ v8 = .int .i64 k ∧ IntBlk wr (w.heap.size + 1) .u8 28 (mk 16 zeroK) ∧ IntBlk wr (w.heap.size + 1 + 1) .u8 28 (mk 16 (dblTo f k)) ∧ Below w.heap.size w wr) (fun _ v8 _ => 16 - (intOf v8).toNat)
  case atStart => exact ⟨0, by omega, rfl, rfl, blk_second w .u8 _ (mk 16 zeroK) _ _, by rw [dblTo_zero]; exact blk_third w .u8 _ (mk 16 zeroK) _ _, below_three w _ _ _⟩
  case round =>
    obtain ⟨k, hk, rfl, rfl, hz, hd, hb⟩ := hrel
    have HZ := Lib.hid hz
    have HD := Lib.hid hd
    have HB := Lib.hid hb
    by_cases hlt : k < 16
    · have hx := hf k hlt
      have hc := carry_lt hf (j := k) (by omega)
      have HV := Lib.hid (dbl0_or hf hlt)
      have HC := Lib.hid (carry_step f k)
      have ci := hd.cell (i := k) (by rw [mk_len]; exact hlt)
      have cf := hd.free k
      have ki := key_index f hlt
      clear hz hd hb
      go_wp2
      go_roundw
      case rel => exact ⟨k + 1, by omega, by rw [HC.out], by go_num, HZ.out.other (by simp) _, by rw [HV.out, ← dblTo_step]; exact HD.out.set k _, HB.out.setCell (by simp; omega) _⟩
      case measure => simp [intOf]; omega
    · obtain rfl : k = 16 := by omega
      rcases top_cases hf with ht | ht
      · have h0 : ((carry f 16 : Nat) : Int) = 1 := by rw [carry_top, ht]; rfl
        have ct : (((carry f 16 : Nat) : Int) != 0) = true := by rw [h0]; rfl
        have ci := hd.cell (i := 0) (by rw [mk_len]; omega)
        rw [mk_get (by omega), dblTo_first] at ci
        have cf := hd.free 0
        have hx := dbl0_lt hf (j := 0) (by omega)
        have HX := Lib.hid (xor135 hx)
        have HT := Lib.hid (dbl_top ht)
        clear hz hd hb ht h0
        have H1 := Lib.hid (HD.out.set 0 ((dbl0 f 0 ^^^ 135 : Nat) : Int))
        go_wp2_with (first
          | (refine wpList_load_row rfl 28 _ rfl (w.heap.size + 1 + 1) rfl 28 (cellsOf .u8 (mk 16 (dbl f))) (0, 0) _ (by rw [HX.out, ← HT.out]; exact H1.out) keyUnder rfl (keySize _) ?_)
          | (refine wpList_store_row rfl 28 _ _ rfl (w.heap.size + 1) _ rfl rfl 28 (cellsOf .u8 (mk 16 zeroK)) (HZ.out.other (by simp) _) (keySize _) (by rw [cellsOf_size, cellsOf_size, mk_len, mk_len]) (cellsOf_one _ _) ?_))
        refine bodyPost_ret (results_cell_row rfl _ _ (w.heap.size + 1) 28 (cellsOf .u8 (mk 16 (dbl f))) (0, 0) _ rfl ((HZ.out.other (by simp) _).setRow .u8 (mk 16 (dbl f))) keyUnder rfl (keySize _)) rfl ⟨rfl, below_setRow (HB.out.setCell (by simp; omega) _) (by omega) _⟩
      · have h0 : ((carry f 16 : Nat) : Int) = 0 := by rw [carry_top, ht]; rfl
        have ct : (((carry f 16 : Nat) : Int) != 0) = false := by rw [h0]; rfl
        have HT := Lib.hid (dbl_low ht)
        clear hz hd hb ht h0
        go_wp2_with (first
          | (refine wpList_load_row rfl 28 _ rfl (w.heap.size + 1 + 1) rfl 28 (cellsOf .u8 (mk 16 (dbl f))) (0, 0) _ (by rw [← HT.out]; exact HD.out) keyUnder rfl (keySize _) ?_)
          | (refine wpList_store_row rfl 28 _ _ rfl (w.heap.size + 1) _ rfl rfl 28 (cellsOf .u8 (mk 16 zeroK)) HZ.out (keySize _) (by rw [cellsOf_size, cellsOf_size, mk_len, mk_len]) (cellsOf_one _ _) ?_))
        refine bodyPost_ret (results_cell_row rfl _ _ (w.heap.size + 1) 28 (cellsOf .u8 (mk 16 (dbl f))) (0, 0) _ rfl (HZ.out.setRow .u8 (mk 16 (dbl f))) keyUnder rfl (keySize _)) rfl ⟨rfl, below_setRow HB.out (by omega) _⟩

set_option maxRecDepth 100000 in
set_option maxHeartbeats 1000000 in
theorem Halve_any (f : Nat → Nat) (hf : IsKey f) (w : World) :
    Calls Try.prog 21 #[.agg (cellsOf .u8 (mk 16 f))] w fun e w' => e = .returned (.agg (cellsOf .u8 (mk 16 (hlv f)))) ∧ Below w.heap.size w w' := by
  have hx0 := hf 0 (by omega)
  have lb := low_bit (b := (f 0 : Int)) (by omega) (by omega)
  have k0 := key_get f (i := 0) (by omega)
  have HX := Lib.hid (xor135 hx0)
  rcases (show f 0 % 2 = 1 ∨ f 0 % 2 = 0 by omega) with ho | ho
  case' inl =>
    have hb0 : (bits .and .u8 (f 0 : Int) 1 != 0) = true := by rw [lb, show (f 0 : Int) % 2 = 1 by omega]; rfl
    have HI := Lib.hid (hin_odd ho)
    have HC : Hid (hcm f 16 = 128) := by unfold Hid hcm; rw [if_pos rfl, ho]
  case' inr =>
    have hb0 : (bits .and .u8 (f 0 : Int) 1 != 0) = false := by rw [lb, show (f 0 : Int) % 2 = 0 by omega]; rfl
    have HI := Lib.hid (hin_even ho)
    have HC : Hid (hcm f 16 = 0) := by unfold Hid hcm; rw [if_pos rfl, ho]
  all_goals
    clear lb ho
    go_enter Try.func21, Try.ntmps21
    go_wp2
    clear k0
    go_loopw [3, 5] (fun v3 v5 wr => ∃ (m : Nat) (z : Int), m ≤ 16 ∧ z + 1 = m ∧ v3 = .int .u8 (hcm f m : Nat) ∧ v5 = .int .i64 z ∧ IntBlk wr w.heap.size .u8 28 (mk 16 (hin f)) ∧ IntBlk wr (w.heap.size + 1) .u8 28 (mk 16 zeroK) ∧ IntBlk wr (w.heap.size + 1 + 1) .u8 28 (mk 16 (hlvTo f m)) ∧ Below w.heap.size w wr) (fun _ v5 _ => (intOf v5 + 1).toNat)
    case atStart =>
      refine ⟨16, 15, by omega, by omega, by rw [HC.out]; rfl, rfl, ?_, blk_second w .u8 _ (mk 16 zeroK) _ _, by rw [hlvTo_start]; exact blk_third w .u8 _ (mk 16 zeroK) _ _, below_three w _ _ _⟩
      first
        | (rw [HX.out, cellsOf_set, HI.out]; exact blk_first w .u8 _ (mk 16 (hin f)) _ _)
        | (rw [HI.out]; exact blk_first w .u8 _ (mk 16 (hin f)) _ _)
    case round =>
      obtain ⟨m, z, hm, hz, rfl, rfl, hs, hzz, hd, hb⟩ := hrel
      have HS := Lib.hid hs
      have HZ := Lib.hid hzz
      have HD := Lib.hid hd
      have HB := Lib.hid hb
      cases m with
      | zero =>
        obtain rfl : z = -1 := by omega
        clear hs hzz hd hb hz hm
        go_wp2_with (first
          | (refine wpList_load_row rfl 28 _ rfl (w.heap.size + 1 + 1) rfl 28 (cellsOf .u8 (mk 16 (hlv f))) (0, 0) _ (by rw [← hlvTo_end]; exact HD.out) keyUnder rfl (keySize _) ?_)
          | (refine wpList_store_row rfl 28 _ _ rfl (w.heap.size + 1) _ rfl rfl 28 (cellsOf .u8 (mk 16 zeroK)) HZ.out (keySize _) (by rw [cellsOf_size, cellsOf_size, mk_len, mk_len]) (cellsOf_one _ _) ?_))
        refine bodyPost_ret (results_cell_row rfl _ _ (w.heap.size + 1) 28 (cellsOf .u8 (mk 16 (hlv f))) (0, 0) _ rfl (HZ.out.setRow .u8 (mk 16 (hlv f))) keyUnder rfl (keySize _)) rfl ⟨rfl, below_setRow HB.out (by omega) _⟩
      | succ m =>
        obtain rfl : z = m := by omega
        have c1 := hs.cell (i := m) (by rw [mk_len]; omega)
        rw [mk_get (by omega)] at c1
        have c2 := hd.cell (i := m) (by rw [mk_len]; omega)
        have f1 := hs.free m
        have f2 := hd.free m
        have hx := hin_key hf m (by omega)
        have hc := hcm_lt f (m + 1)
        have HV := Lib.hid (hlv_or hf (j := m) (by omega))
        have HT := Lib.hid (hcm_step f (j := m) (by omega))
        clear hs hzz hd hb hz
        go_wp2
        go_roundw
        case rel => exact ⟨m, (m : Int) - 1, by omega, by omega, by rw [HT.out], rfl, HS.out.other (by show w.heap.size + 1 + 1 ≠ w.heap.size; omega) _, HZ.out.other (by simp) _, by rw [HV.out, ← hlvTo_step]; exact HD.out.set m _, HB.out.setCell (by simp; omega) _⟩
        case measure => simp [intOf]

set_option maxRecDepth 100000 in
set_option maxHeartbeats 1000000 in
theorem Xor_any (f g : Nat → Nat) (hf : IsKey f) (hg : IsKey g) (w : World) :
    Calls Try.prog 22 #[.agg (cellsOf .u8 (mk 16 f)), .agg (cellsOf .u8 (mk 16 g))] w fun e w' => e = .returned (.agg (cellsOf .u8 (mk 16 (xorK f g)))) ∧ Below w.heap.size w w' := by
  go_enter Try.func22, Try.ntmps22
  go_wp2
  go_loopw [7] (fun v7 wr => ∃ k : Nat, k ≤ 16 ∧ v7 = .int .i64 k ∧ IntBlk wr w.heap.size .u8 28 (mk 16 f) ∧ IntBlk wr (w.heap.size + 1) .u8 28 (mk 16 g) ∧ IntBlk wr (w.heap.size + 1 + 1) .u8 28 (mk 16 zeroK) ∧ IntBlk wr (w.heap.size + 1 + 1 + 1) .u8 28 (mk 16 (xorTo f g k)) ∧ Below w.heap.size w wr) (fun v7 _ => 16 - (intOf v7).toNat)
  case atStart => exact ⟨0, by omega, rfl, (blk_first w .u8 _ (mk 16 f) _ _).alloc _, (blk_second w .u8 _ (mk 16 g) _ _).alloc _, (blk_third w .u8 _ (mk 16 zeroK) _ _).alloc _, by rw [xorTo_start]; exact blk_fourth w .u8 _ (mk 16 zeroK) _ _ _, below_four w _ _ _ _⟩
  case round =>
    obtain ⟨k, hk, rfl, ha, hb, hz, hd, hw⟩ := hrel
    have HA := Lib.hid ha
    have HB := Lib.hid hb
    have HZ := Lib.hid hz
    have HD := Lib.hid hd
    have HW := Lib.hid hw
    by_cases hlt : k < 16
    · have c1 := ha.cell (i := k) (by rw [mk_len]; exact hlt)
      have c2 := hb.cell (i := k) (by rw [mk_len]; exact hlt)
      have c3 := hd.cell (i := k) (by rw [mk_len]; exact hlt)
      rw [mk_get hlt] at c1 c2
      have f1 := ha.free k
      have f2 := hb.free k
      have f3 := hd.free k
      have hx := hf k hlt
      have hy := hg k hlt
      have HV := Lib.hid (xorK_bits (f := f) (g := g) hx hy)
      clear ha hb hz hd hw
      go_wp2
      have e1 : (k : Int) < 16 := by omega
      have e2 : (0 : Int) ≤ k := by omega
      refine wp_region_still_tail 9 (by kernel_rfl) (by kernel_rfl) ?_
      simp only [List.take_succ_cons, List.take_zero, List.drop_succ_cons, List.drop_zero]
      change wpStill _ _ wr.drew (fun a' => wpList _ _ _ _ a' wr.drew) _ _
      iterate 9 still_step
      refine wpStill_nil ?_
      go_wp2
      go_roundw
      case rel => exact ⟨k + 1, by omega, by go_num, (HA.out.other (by show w.heap.size + 1 + 1 + 1 ≠ w.heap.size; omega) _).drew, (HB.out.other (by show w.heap.size + 1 + 1 + 1 ≠ w.heap.size + 1; omega) _).drew, (HZ.out.other (by show w.heap.size + 1 + 1 + 1 ≠ w.heap.size + 1 + 1; omega) _).drew, by rw [HV.out, ← xorTo_step]; exact (HD.out.set k _).drew, (HW.out.setCell (by show w.heap.size ≤ w.heap.size + 1 + 1 + 1; omega) _).drew⟩
      case measure => simp [intOf]; omega
    · obtain rfl : k = 16 := by omega
      clear ha hb hz hd hw
      go_wp2_with (first
        | (refine wpList_load_row rfl 28 _ rfl (w.heap.size + 1 + 1 + 1) rfl 28 (cellsOf .u8 (mk 16 (xorK f g))) (0, 0) _ (by rw [← xorTo_end]; exact HD.out) keyUnder rfl (keySize _) ?_)
        | (refine wpList_store_row rfl 28 _ _ rfl (w.heap.size + 1 + 1) _ rfl rfl 28 (cellsOf .u8 (mk 16 zeroK)) HZ.out (keySize _) (by rw [cellsOf_size, cellsOf_size, mk_len, mk_len]) (cellsOf_one _ _) ?_))
      refine bodyPost_ret (results_cell_row rfl _ _ (w.heap.size + 1 + 1) 28 (cellsOf .u8 (mk 16 (xorK f g))) (0, 0) _ rfl (HZ.out.setRow .u8 (mk 16 (xorK f g))) keyUnder rfl (keySize _)) rfl ⟨rfl, below_setRow HW.out (by omega) _⟩
end Go.Proofs.Ytccjpofngannhaa

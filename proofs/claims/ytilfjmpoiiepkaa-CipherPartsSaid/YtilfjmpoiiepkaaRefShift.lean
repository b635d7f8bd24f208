/- The contracts of package citadelref03's table, block and Shift: each answers what the plain functions say, and writes nothing that was there. No condition. -/
import Derived.Test.YtilfjmpoiiepkaaShiftC
import Derived.Test.YtilfjmpoiiepkaaQuietS
namespace Go.Proofs.Ytilfjmpoiiepkaa
open Go.ChangeShapes Go.WideShapes Go.ChangeAt Go.RowKit

/-- A table's place of byte i, row by row; it is its own way back. -/
def trP (i : Nat) : Nat := i % 4 * 4 + i / 4
theorem trP_lt {i : Nat} (h : i < 16) : trP i < 16 := by unfold trP; omega
theorem trP_trP {i : Nat} (h : i < 16) : trP (trP i) = i := by unfold trP; omega
def trK (f : Nat → Nat) (j : Nat) : Nat := f (trP j)
def trTo (f : Nat → Nat) (k : Nat) : Nat → Nat := fun j => if trP j < k then trK f j else 0
theorem trTo_start (f : Nat → Nat) : mk 16 (trTo f 0) = mk 16 zeroK := mk_ext fun j _ => by unfold trTo zeroK; rw [if_neg (by omega)]
theorem trTo_end (f : Nat → Nat) : mk 16 (trTo f 16) = mk 16 (trK f) := mk_ext fun j hj => by unfold trTo; rw [if_pos (trP_lt hj)]
theorem trTo_step (f : Nat → Nat) {k : Nat} (hk : k < 16) : (mk 16 (trTo f k)).set (trP k) (f k : Nat) = mk 16 (trTo f (k + 1)) := by
  refine mk_set_is rfl fun j hj => ?_
  unfold trTo
  by_cases e : j = trP k
  · subst e; rw [if_pos rfl, trP_trP hk, if_pos (by omega)]; unfold trK; rw [trP_trP hk]
  · have ne : trP j ≠ k := fun h => e (by rw [← h, trP_trP hj])
    rw [if_neg e]
    by_cases l : trP j < k
    · rw [if_pos l, if_pos (by omega)]
    · rw [if_neg l, if_neg (by omega)]
def blTo (f : Nat → Nat) (k : Nat) : Nat → Nat := fun j => if j < k then trK f j else 0
theorem blTo_start (f : Nat → Nat) : mk 16 (blTo f 0) = mk 16 zeroK := mk_ext fun j _ => by unfold blTo zeroK; rw [if_neg (by omega)]
theorem blTo_end (f : Nat → Nat) : mk 16 (blTo f 16) = mk 16 (trK f) := mk_ext fun j hj => by unfold blTo; rw [if_pos hj]
theorem blTo_step (f : Nat → Nat) (k : Nat) : (mk 16 (blTo f k)).set k (f (trP k) : Nat) = mk 16 (blTo f (k + 1)) := by
  refine mk_set_is rfl fun j _ => ?_
  unfold blTo
  by_cases e : j = k
  · subst e; rw [if_pos rfl, if_pos (by omega)]; rfl
  · rw [if_neg e]
    by_cases l : j < k
    · rw [if_pos l, if_pos (by omega)]
    · rw [if_neg l, if_neg (by omega)]
/-- Rows rotated in a table. -/
def roP (p : Nat) : Nat := p / 4 * 4 + (p % 4 + p / 4) % 4
def roTo (f : Nat → Nat) (k : Nat) : Nat → Nat := fun j => if j < k then f (roP j) else 0
theorem roTo_start (f : Nat → Nat) : mk 16 (roTo f 0) = mk 16 zeroK := mk_ext fun j _ => by unfold roTo zeroK; rw [if_neg (by omega)]
theorem roTo_end (f : Nat → Nat) : mk 16 (roTo f 16) = mk 16 (fun j => f (roP j)) := mk_ext fun j hj => by unfold roTo; rw [if_pos hj]
theorem roTo_step (f : Nat → Nat) (k : Nat) : (mk 16 (roTo f k)).set k (f (roP k) : Nat) = mk 16 (roTo f (k + 1)) := by
  refine mk_set_is rfl fun j _ => ?_
  unfold roTo
  by_cases e : j = k
  · subst e; rw [if_pos rfl, if_pos (by omega)]
  · rw [if_neg e]
    by_cases l : j < k
    · rw [if_pos l, if_pos (by omega)]
    · rw [if_neg l, if_neg (by omega)]
theorem sh_parts {i : Nat} (h : i < 16) : trP (roP (trP i)) = fromN i := by
  have t : ∀ a : Fin 16, trP (roP (trP a.val)) = fromN a.val := by decide +kernel
  exact t ⟨i, h⟩
theorem sh_is (f : Nat → Nat) : mk 16 (trK (fun j => trK f (roP j))) = mk 16 (shK f) := mk_ext fun j hj => by
  show f (trP (roP (trP j))) = f (fromN j); rw [sh_parts hj]

theorem tblUnder : Try.prog.underlying 55 = some (.array 4 26) := Try.underlying55
theorem tblSize (f : Nat → Nat) : (Try.prog.info? 55).map (·.size) = some (cellsOf .u8 (mk 16 f)).size := by
  rw [cellsOf_size, mk_len]; kernel_rfl

set_option maxRecDepth 100000 in
set_option maxHeartbeats 1000000 in
theorem table_any (f : Nat → Nat) (w : World) :
    Calls Try.prog 30 #[.agg (cellsOf .u8 (mk 16 f))] w fun e w' => e = .returned (.agg (cellsOf .u8 (mk 16 (trK f)))) ∧ Below w.heap.size w w' := by
  go_enter Try.func30, Try.ntmps30
  go_wp2
  go_loopw [4] (fun v4 wr => ∃ k : Nat, k ≤ 16 ∧ v4 = .int .i64 k ∧ IntBlk wr w.heap.size .u8 23 (mk 16 f) ∧ IntBlk wr (w.heap.size + 1) .u8 55 (mk 16 zeroK) ∧ IntBlk wr (w.heap.size + 1 + 1) .u8 55 (mk 16 (trTo f k)) ∧ Below w.heap.size w wr) (fun v4 _ => 16 - (intOf v4).toNat)
  case atStart => exact ⟨0, by omega, rfl, blk_first w .u8 _ (mk 16 f) _ _, blk_second w .u8 _ (mk 16 zeroK) _ _, by rw [trTo_start]; exact blk_third w .u8 _ (mk 16 zeroK) _ _, below_three w _ _ _⟩
  case round =>
    obtain ⟨k, hk, rfl, ha, hz, hd, hw⟩ := hrel
    have HA := Lib.hid ha
    have HZ := Lib.hid hz
    have HD := Lib.hid hd
    have HW := Lib.hid hw
    by_cases hlt : k < 16
    · have hx : k % 4 * 4 + k / 4 < 16 := by omega
      have c1 := ha.cell (i := k) (by rw [mk_len]; exact hlt)
      rw [mk_get hlt] at c1
      have f1 := ha.free k
      have c3 := hd.cell (i := k % 4 * 4 + k / 4) (by rw [mk_len]; exact hx)
      have f3 := hd.free (k % 4 * 4 + k / 4)
      clear ha hz hd hw
      go_wp2
      have e1 : (k : Int) < 16 := by omega
      have e2 : (0 : Int) ≤ k := by omega
      have q1 : IntKind.i64.wrap ((k : Int) / 4) = (k : Int) / 4 := IntWalk.i64_in _ (by omega)
      have q2 : (k : Int).tmod 4 = (k : Int) % 4 := IntWalk.rem_in _ _ (by omega)
      have q3 : (0 : Int) ≤ (k : Int) % 4 := by omega
      have q4 : (k : Int) % 4 < 4 := by omega
      have q5 : (0 : Int) ≤ (k : Int) / 4 := by omega
      have q6 : (k : Int) / 4 < 4 := by omega
      have q7 : ((k : Int) % 4).toNat * 4 + ((k : Int) / 4).toNat = k % 4 * 4 + k / 4 := by omega
      refine wp_region_still_tail 9 (by kernel_rfl) (by kernel_rfl) ?_
      simp only [List.take_succ_cons, List.take_zero, List.drop_succ_cons, List.drop_zero]
      change wpStill _ _ wr.drew (fun a' => wpList _ _ _ _ a' wr.drew) _ _
      iterate 9 still_step
      refine wpStill_nil ?_
      go_wp2
      go_roundw
      case rel => exact ⟨k + 1, by omega, by go_num, (HA.out.other (by show w.heap.size + 1 + 1 ≠ w.heap.size; omega) _).drew, (HZ.out.other (by show w.heap.size + 1 + 1 ≠ w.heap.size + 1; omega) _).drew, by rw [← trTo_step f hlt]; exact (HD.out.set (trP k) _).drew, (HW.out.setCell (by show w.heap.size ≤ w.heap.size + 1 + 1; omega) _).drew⟩
      case measure => simp [intOf]; omega
    · obtain rfl : k = 16 := by omega
      clear ha hz hd hw
      go_wp2_with (first
        | (refine wpList_load_row rfl 55 _ rfl (w.heap.size + 1 + 1) rfl 55 (cellsOf .u8 (mk 16 (trK f))) (0, 0) _ (by rw [← trTo_end]; exact HD.out) tblUnder rfl (tblSize _) ?_)
        | (refine wpList_store_row rfl 55 _ _ rfl (w.heap.size + 1) _ rfl rfl 55 (cellsOf .u8 (mk 16 zeroK)) HZ.out (tblSize _) (by rw [cellsOf_size, cellsOf_size, mk_len, mk_len]) (cellsOf_one _ _) ?_))
      refine bodyPost_ret (results_cell_row rfl _ _ (w.heap.size + 1) 55 (cellsOf .u8 (mk 16 (trK f))) (0, 0) _ rfl (HZ.out.setRow .u8 (mk 16 (trK f))) tblUnder rfl (tblSize _)) rfl ⟨rfl, below_setRow HW.out (by omega) _⟩

set_option maxRecDepth 100000 in
set_option maxHeartbeats 1000000 in
theorem block_any (f : Nat → Nat) (w : World) :
    Calls Try.prog 31 #[.agg (cellsOf .u8 (mk 16 f))] w fun e w' => e = .returned (.agg (cellsOf .u8 (mk 16 (trK f)))) ∧ Below w.heap.size w w' := by
  go_enter Try.func31, Try.ntmps31
  go_wp2
  go_loopw [4] (fun v4 wr => ∃ k : Nat, k ≤ 16 ∧ v4 = .int .i64 k ∧ IntBlk wr w.heap.size .u8 55 (mk 16 f) ∧ IntBlk wr (w.heap.size + 1) .u8 23 (mk 16 zeroK) ∧ IntBlk wr (w.heap.size + 1 + 1) .u8 23 (mk 16 (blTo f k)) ∧ Below w.heap.size w wr) (fun v4 _ => 16 - (intOf v4).toNat)
  case atStart => exact ⟨0, by omega, rfl, blk_first w .u8 _ (mk 16 f) _ _, blk_second w .u8 _ (mk 16 zeroK) _ _, by rw [blTo_start]; exact blk_third w .u8 _ (mk 16 zeroK) _ _, below_three w _ _ _⟩
  case round =>
    obtain ⟨k, hk, rfl, ha, hz, hd, hw⟩ := hrel
    have HA := Lib.hid ha
    have HZ := Lib.hid hz
    have HD := Lib.hid hd
    have HW := Lib.hid hw
    by_cases hlt : k < 16
    · have hx : k % 4 * 4 + k / 4 < 16 := by omega
      have c1 := ha.cell (i := k % 4 * 4 + k / 4) (by rw [mk_len]; exact hx)
      rw [mk_get hx] at c1
      have f1 := ha.free (k % 4 * 4 + k / 4)
      have c3 := hd.cell (i := k) (by rw [mk_len]; exact hlt)
      have f3 := hd.free k
      have q2 : (k : Int).tmod 4 = (k : Int) % 4 := IntWalk.rem_in _ _ (by omega)
      have q3 : (0 : Int) ≤ (k : Int) % 4 := by omega
      have q4 : (k : Int) % 4 < 4 := by omega
      have q5 : (0 : Int) ≤ (k : Int) / 4 := by omega
      have q6 : (k : Int) / 4 < 4 := by omega
      have q7 : ((k : Int) % 4).toNat * 4 + ((k : Int) / 4).toNat = k % 4 * 4 + k / 4 := by omega
      clear ha hz hd hw
      go_wp2
      go_roundw
      case rel => exact ⟨k + 1, by omega, by go_num, HA.out.other (by show w.heap.size + 1 + 1 ≠ w.heap.size; omega) _, HZ.out.other (by show w.heap.size + 1 + 1 ≠ w.heap.size + 1; omega) _, by rw [← blTo_step]; exact HD.out.set k _, HW.out.setCell (by show w.heap.size ≤ w.heap.size + 1 + 1; omega) _⟩
      case measure => simp [intOf]; omega
    · obtain rfl : k = 16 := by omega
      clear ha hz hd hw
      go_wp2_with (first
        | (refine wpList_load_row rfl 23 _ rfl (w.heap.size + 1 + 1) rfl 23 (cellsOf .u8 (mk 16 (trK f))) (0, 0) _ (by rw [← blTo_end]; exact HD.out) keyUnder rfl (keySize _) ?_)
        | (refine wpList_store_row rfl 23 _ _ rfl (w.heap.size + 1) _ rfl rfl 23 (cellsOf .u8 (mk 16 zeroK)) HZ.out (keySize _) (by rw [cellsOf_size, cellsOf_size, mk_len, mk_len]) (cellsOf_one _ _) ?_))
      refine bodyPost_ret (results_cell_row rfl _ _ (w.heap.size + 1) 23 (cellsOf .u8 (mk 16 (trK f))) (0, 0) _ rfl (HZ.out.setRow .u8 (mk 16 (trK f))) keyUnder rfl (keySize _)) rfl ⟨rfl, below_setRow HW.out (by omega) _⟩

theorem size_setRow (w : World) (g : Nat) (cs : Array Value) : (w.setRow g cs).heap.size = w.heap.size := by simp [World.setRow]
theorem blk_row_new (w : World) (o : Obj) (g : Nat) (cs : Array Value) (k : IntKind) (t : TypeId) (l : List Int) : IntBlk (((w.alloc o).setRow g cs).alloc (.cells (cellsOf k l) t)) (w.heap.size + 1) k t l := by
  have h := IntBlk.new ((w.alloc o).setRow g cs) k t l
  rw [size_setRow, World.size_alloc] at h; exact h

set_option maxRecDepth 100000 in
set_option maxHeartbeats 1000000 in
theorem refShift_any (f : Nat → Nat) (w : World) :
    Calls Try.prog 12 #[.agg (cellsOf .u8 (mk 16 f))] w fun e w' => e = .returned (.agg (cellsOf .u8 (mk 16 (shK f)))) ∧ Below w.heap.size w w' := by
  rw [← sh_is]
  go_enter Try.func12, Try.ntmps12
  go_wp2_with (first
    | (refine wpList_load_row rfl 23 _ rfl w.heap.size rfl 23 (cellsOf .u8 (mk 16 f)) (0, 0) _ ((IntBlk.new w .u8 23 (mk 16 f)).alloc _) keyUnder rfl (keySize f) ?_)
    | fail)
  refine (table_any f _).mono ?_
  rintro e w1 ⟨rfl, hb1⟩
  go_wp2_with (first
    | (refine store_row_on rfl 55 _ _ rfl rfl w1.heap.size (cellsOf .u8 (mk 16 (trK f))) rfl rfl 55 (cellsOf .u8 (mk 16 zeroK)) (IntBlk.new w1 .u8 55 (mk 16 zeroK)) (tblSize _) (by rw [cellsOf_size, cellsOf_size, mk_len, mk_len]) (cellsOf_one _ _) ?_)
    | fail)
  have B1 := (blk_two w .u8 23 (mk 16 zeroK) (.cells (cellsOf .u8 (mk 16 f)) 23)).below hb1 (by simp)
  have L1 : Below w.heap.size w w1 := (below_two w _ _).trans (hb1.mono (by simp; omega))
  have hs : w.heap.size + 2 ≤ w1.heap.size := by have := hb1.size; simp at this; omega
  clear hb1
  go_loopw [5] (fun v5 wr => ∃ r : Nat, r ≤ 4 ∧ v5 = .int .i64 r ∧ IntBlk wr (w.heap.size + 1) .u8 23 (mk 16 zeroK) ∧ IntBlk wr w1.heap.size .u8 55 (mk 16 (trK f)) ∧ IntBlk wr (w1.heap.size + 1) .u8 55 (mk 16 (roTo (trK f) (r * 4))) ∧ Below w.heap.size w wr) (fun v5 _ => 4 - (intOf v5).toNat)
  case atStart =>
    exact ⟨0, by omega, rfl, ((B1.alloc _).otherRow (by omega) _).alloc _, ((IntBlk.new w1 .u8 55 (mk 16 zeroK)).setRow .u8 (mk 16 (trK f))).alloc _, by rw [roTo_start]; exact blk_row_new w1 _ _ _ .u8 55 (mk 16 zeroK), (below_setRow (L1.alloc (by omega) _) (by omega) _).alloc (by rw [size_setRow]; simp; omega) _⟩
  case round =>
    obtain ⟨r, hr, rfl, hz, ha, hd, hw⟩ := hrel
    have HZ := Lib.hid hz
    have HA := Lib.hid ha
    have HD := Lib.hid hd
    have HW := Lib.hid hw
    clear hz ha hd hw B1 L1
    by_cases hlt : r < 4
    · have hr1 : decide ((r : Int) < 4) = true := by simp; omega
      go_wp2
      go_loopw [6] (fun v6 wr => ∃ c : Nat, c ≤ 4 ∧ v6 = .int .i64 c ∧ IntBlk wr (w.heap.size + 1) .u8 23 (mk 16 zeroK) ∧ IntBlk wr w1.heap.size .u8 55 (mk 16 (trK f)) ∧ IntBlk wr (w1.heap.size + 1) .u8 55 (mk 16 (roTo (trK f) (r * 4 + c))) ∧ Below w.heap.size w wr) (fun v6 _ => 4 - (intOf v6).toNat)
      case atStart => exact ⟨0, by omega, rfl, HZ.out, HA.out, HD.out, HW.out⟩
      case round =>
        clear HZ HA HD HW
        obtain ⟨c, hc, rfl, hz, ha, hd, hw⟩ := hrel
        have HZ := Lib.hid hz
        have HA := Lib.hid ha
        have HD := Lib.hid hd
        have HW := Lib.hid hw
        by_cases hlc : c < 4
        · have e0 : roP (r * 4 + c) = r * 4 + (c + r) % 4 := by unfold roP; omega
          have hx : r * 4 + (c + r) % 4 < 16 := by omega
          have hy : r * 4 + c < 16 := by omega
          have c1 := ha.cell (i := r * 4 + (c + r) % 4) (by rw [mk_len]; exact hx)
          rw [mk_get hx] at c1
          have f1 := ha.free (r * 4 + (c + r) % 4)
          have c3 := hd.cell (i := r * 4 + c) (by rw [mk_len]; exact hy)
          have f3 := hd.free (r * 4 + c)
          clear ha hz hd hw
          go_wp2
          have e1 : (r : Int) < 4 := by omega
          have e2 : (0 : Int) ≤ r := by omega
          have e3 : (c : Int) < 4 := by omega
          have e4 : (0 : Int) ≤ c := by omega
          have q1 : IntKind.i64.wrap ((c : Int) + r) = (c : Int) + r := IntWalk.i64_in _ (by omega)
          have q2 : ((c : Int) + r).tmod 4 = ((c : Int) + r) % 4 := IntWalk.rem_in _ _ (by omega)
          have q3 : (0 : Int) ≤ ((c : Int) + r) % 4 := by omega
          have q4 : ((c : Int) + r) % 4 < 4 := by omega
          have q7 : r * 4 + (((c : Int) + r) % 4).toNat = r * 4 + (c + r) % 4 := by omega
          refine wp_region_still_tail 12 (by kernel_rfl) (by kernel_rfl) ?_
          simp only [List.take_succ_cons, List.take_zero, List.drop_succ_cons, List.drop_zero]
          change wpStill _ _ wr.drew (fun a' => wpList _ _ _ _ a' wr.drew) _ _
          iterate 12 still_step
          refine wpStill_nil ?_
          go_wp2
          go_roundw
          case rel => exact ⟨c + 1, by omega, by go_num, (HZ.out.other (by show w1.heap.size + 1 ≠ w.heap.size + 1; omega) _).drew, (HA.out.other (by show w1.heap.size + 1 ≠ w1.heap.size; omega) _).drew, by rw [show r * 4 + (c + 1) = r * 4 + c + 1 from rfl, ← roTo_step, e0]; exact (HD.out.set (r * 4 + c) _).drew, (HW.out.setCell (by show w.heap.size ≤ w1.heap.size + 1; omega) _).drew⟩
          case measure => simp [intOf]; omega
        · obtain rfl : c = 4 := by omega
          clear ha hz hd hw
          go_wp2
          go_roundw
          case rel => exact ⟨r + 1, by omega, by go_num, HZ.out, HA.out, by rw [show (r + 1) * 4 = r * 4 + 4 by omega]; exact HD.out, HW.out⟩
          case measure => simp [intOf]; omega
    · obtain rfl : r = 4 := by omega
      go_wp2_with (first
        | (refine wpList_load_row rfl 55 _ rfl (w1.heap.size + 1) rfl 55 (cellsOf .u8 (mk 16 (fun j => trK f (roP j)))) (0, 0) _ (by rw [← roTo_end]; exact HD.out) tblUnder rfl (tblSize _) ?_)
        | fail)
      refine (block_any _ _).mono ?_
      rintro e w2 ⟨rfl, hb2⟩
      have HZ2 := Lib.hid (HZ.out.below hb2 HZ.out.lt)
      have HW2 := Lib.hid (HW.out.trans (hb2.mono HW.out.size))
      clear hb2 HZ HA HD HW
      go_wp2_with (refine wpList_store_row rfl 23 _ _ rfl (w.heap.size + 1) _ rfl rfl 23 (cellsOf .u8 (mk 16 zeroK)) HZ2.out (keySize _) (by rw [cellsOf_size, cellsOf_size, mk_len, mk_len]) (cellsOf_one _ _) ?_)
      refine bodyPost_ret (results_cell_row rfl _ _ (w.heap.size + 1) 23 (cellsOf .u8 (mk 16 (trK (fun j => trK f (roP j))))) (0, 0) _ rfl (HZ2.out.setRow .u8 (mk 16 (trK (fun j => trK f (roP j))))) keyUnder rfl (keySize _)) rfl ⟨rfl, below_setRow HW2.out (by omega) _⟩
end Go.Proofs.Ytilfjmpoiiepkaa

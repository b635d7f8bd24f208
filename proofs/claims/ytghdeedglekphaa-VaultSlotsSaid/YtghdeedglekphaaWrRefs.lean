/- WrRefs: merged by merge.py out of Table RefShift RefMix Gives RefEnc KeysAt. Conditions: as each part says. -/
import Derived.Test.YtghdeedglekphaaWrSched
import Derived.Test.YtghdeedglekphaaTwBase
import Derived.Great.BuildSlice
import Derived.Deep.WholeRow
/- The contract of package citadelref02's Table: an array of what all bytes are substituted by. No condition. -/
namespace Go.Proofs.Ytghdeedglekphaa
open Go.ChangeShapes Go.WideShapes Go.ChangeAt Go.RowKit

set_option maxRecDepth 100000 in
theorem tabZero : (Try.prog.info? 84).bind (·.zero) = some (.agg (cellsOf .u8 (mk 256 zeroK))) := by kernel_rfl
theorem tabZero_run (W : World) : (zeroValue 84).run Try.prog W = .ok (.agg (cellsOf .u8 (mk 256 zeroK))) W := by
  have h := tabZero
  cases hq : Try.prog.info? 84 with
  | none => rw [hq] at h; simp at h
  | some i =>
    rw [hq] at h
    simp only [Option.bind_some] at h
    simp [zeroValue, typeInfo, hq, h]
theorem tabSize (f : Nat → Nat) : (Try.prog.info? 84).map (·.size) = some (cellsOf .u8 (mk 256 f)).size := by
  rw [cellsOf_size, mk_len]; kernel_rfl

set_option maxRecDepth 100000 in
set_option maxHeartbeats 1000000 in
theorem Table_any (w : World) :
    Calls Try.prog 39 #[] w fun e w' => e = .returned (.agg (cellsOf .u8 (mk 256 subN))) ∧ Below w.heap.size w w' := by
  have hz := tabZero_run
  go_enter Try.func39, Try.ntmps39
  go_wp2_with (first
    | (refine wpList_buildFlatArr rfl 84 5 256 _ rfl .u8 (mk 256 subN) Try.underlying84 (by kernel_rfl) (by rw [mk_len]; kernel_rfl) (by kernel_rfl) ?_)
    | (refine wpList_store_row rfl 84 _ _ rfl w.heap.size (cellsOf .u8 (mk 256 subN)) rfl rfl 84 (cellsOf .u8 (mk 256 zeroK)) (IntBlk.new w .u8 84 (mk 256 zeroK)) (tabSize _) (by rw [cellsOf_size, cellsOf_size, mk_len, mk_len]) (cellsOf_one _ _) ?_))
  refine bodyPost_ret (results_cell_row rfl _ _ w.heap.size 84 (cellsOf .u8 (mk 256 subN)) (0, 0) _ rfl ((IntBlk.new w .u8 84 (mk 256 zeroK)).setRow .u8 (mk 256 subN)) Try.underlying84 rfl (tabSize _)) rfl ⟨rfl, below_setRow ((Below.refl _ _).alloc (Nat.le_refl _) _) (Nat.le_refl _) _⟩
end Go.Proofs.Ytghdeedglekphaa

/- The contracts of package citadelref03's table, block and Shift: each answers what the plain functions say, and writes nothing that was there. No condition. -/
namespace Go.Proofs.Ytghdeedglekphaa
open Go.ChangeShapes Go.WideShapes Go.ChangeAt Go.RowKit

/-- A table's place of byte i, row by row; it is its own way back. -/
def trP (i : Nat) : Nat := i % 4 * 4 + i / 4
theorem trP_lt {i : Nat} (h : i < 16) : trP i < 16 := by unfold trP; omega
theorem trP_trP {i : Nat} (h : i < 16) : trP (trP i) = i := by unfold trP; omega
def trK (f : Nat → Nat) (j : Nat) : Nat := f (trP j)
def trTo (f : Nat → Nat) (k : Nat) : Nat → Nat := fun j => if trP j < k then trK f j else 0
theorem trTo_start (f : Nat → Nat) : mk 16 (trTo f 0) = mk 16 zeroK := mk_ext fun j _ => by unfold trTo zeroK; rw [if_neg (by omega)]
theorem trTo_end (f : Nat → Nat) : mk 16 (trTo f 16) = mk 16 (trK f) := mk_ext fun j hj => by unfold trTo; rw [if_pos (trP_lt hj)]
theorem trTo_step (f : Nat → Nat) {k : Nat} (hk : k < 16) : (mk 16 (trTo f k)).set (trP k) (f k : Nat) = mk 16 (trTo f (k + 1)) := by
  refine mk_set_is rfl fun j hj => ?_
  unfold trTo
  by_cases e : j = trP k
  · subst e; rw [if_pos rfl, trP_trP hk, if_pos (by omega)]; unfold trK; rw [trP_trP hk]
  · have ne : trP j ≠ k := fun h => e (by rw [← h, trP_trP hj])
    rw [if_neg e]
    by_cases l : trP j < k
    · rw [if_pos l, if_pos (by omega)]
    · rw [if_neg l, if_neg (by omega)]
def blTo (f : Nat → Nat) (k : Nat) : Nat → Nat := fun j => if j < k then trK f j else 0
theorem blTo_start (f : Nat → Nat) : mk 16 (blTo f 0) = mk 16 zeroK := mk_ext fun j _ => by unfold blTo zeroK; rw [if_neg (by omega)]
theorem blTo_end (f : Nat → Nat) : mk 16 (blTo f 16) = mk 16 (trK f) := mk_ext fun j hj => by unfold blTo; rw [if_pos hj]
theorem blTo_step (f : Nat → Nat) (k : Nat) : (mk 16 (blTo f k)).set k (f (trP k) : Nat) = mk 16 (blTo f (k + 1)) := by
  refine mk_set_is rfl fun j _ => ?_
  unfold blTo
  by_cases e : j = k
  · subst e; rw [if_pos rfl, if_pos (by omega)]; rfl
  · rw [if_neg e]
    by_cases l : j < k
    · rw [if_pos l, if_pos (by omega)]
    · rw [if_neg l, if_neg (by omega)]
/-- Rows rotated in a table. -/
def roP (p : Nat) : Nat := p / 4 * 4 + (p % 4 + p / 4) % 4
def roTo (f : Nat → Nat) (k : Nat) : Nat → Nat := fun j => if j < k then f (roP j) else 0
theorem roTo_start (f : Nat → Nat) : mk 16 (roTo f 0) = mk 16 zeroK := mk_ext fun j _ => by unfold roTo zeroK; rw [if_neg (by omega)]
theorem roTo_end (f : Nat → Nat) : mk 16 (roTo f 16) = mk 16 (fun j => f (roP j)) := mk_ext fun j hj => by unfold roTo; rw [if_pos hj]
theorem roTo_step (f : Nat → Nat) (k : Nat) : (mk 16 (roTo f k)).set k (f (roP k) : Nat) = mk 16 (roTo f (k + 1)) := by
  refine mk_set_is rfl fun j _ => ?_
  unfold roTo
  by_cases e : j = k
  · subst e; rw [if_pos rfl, if_pos (by omega)]
  · rw [if_neg e]
    by_cases l : j < k
    · rw [if_pos l, if_pos (by omega)]
    · rw [if_neg l, if_neg (by omega)]
theorem sh_parts {i : Nat} (h : i < 16) : trP (roP (trP i)) = fromN i := by
  have t : ∀ a : Fin 16, trP (roP (trP a.val)) = fromN a.val := by decide +kernel
  exact t ⟨i, h⟩
theorem sh_is (f : Nat → Nat) : mk 16 (trK (fun j => trK f (roP j))) = mk 16 (shK f) := mk_ext fun j hj => by
  show f (trP (roP (trP j))) = f (fromN j); rw [sh_parts hj]

theorem tblUnder : Try.prog.underlying 94 = some (.array 4 87) := Try.underlying94
theorem tblSize (f : Nat → Nat) : (Try.prog.info? 94).map (·.size) = some (cellsOf .u8 (mk 16 f)).size := by
  rw [cellsOf_size, mk_len]; kernel_rfl

set_option maxRecDepth 100000 in
set_option maxHeartbeats 1000000 in
theorem table_any (f : Nat → Nat) (w : World) :
    Calls Try.prog 51 #[.agg (cellsOf .u8 (mk 16 f))] w fun e w' => e = .returned (.agg (cellsOf .u8 (mk 16 (trK f)))) ∧ Below w.heap.size w w' := by
  go_enter Try.func51, Try.ntmps51
  go_wp2
  go_loopw [4] (fun v4 wr => ∃ k : Nat, k ≤ 16 ∧ v4 = .int .i64 k ∧ IntBlk wr w.heap.size .u8 65 (mk 16 f) ∧ IntBlk wr (w.heap.size + 1) .u8 94 (mk 16 zeroK) ∧ IntBlk wr (w.heap.size + 1 + 1) .u8 94 (mk 16 (trTo f k)) ∧ Below w.heap.size w wr) (fun v4 _ => 16 - (intOf v4).toNat)
  case atStart => exact ⟨0, by omega, rfl, blk_first w .u8 _ (mk 16 f) _ _, blk_second w .u8 _ (mk 16 zeroK) _ _, by rw [trTo_start]; exact blk_third w .u8 _ (mk 16 zeroK) _ _, below_three w _ _ _⟩
  case round =>
    obtain ⟨k, hk, rfl, ha, hz, hd, hw⟩ := hrel
    have HA := Lib.hid ha
    have HZ := Lib.hid hz
    have HD := Lib.hid hd
    have HW := Lib.hid hw
    by_cases hlt : k < 16
    · have hx : k % 4 * 4 + k / 4 < 16 := by omega
      have c1 := ha.cell (i := k) (by rw [mk_len]; exact hlt)
      rw [mk_get hlt] at c1
      have f1 := ha.free k
      have c3 := hd.cell (i := k % 4 * 4 + k / 4) (by rw [mk_len]; exact hx)
      have f3 := hd.free (k % 4 * 4 + k / 4)
      clear ha hz hd hw
      go_wp2
      have e1 : (k : Int) < 16 := by omega
      have e2 : (0 : Int) ≤ k := by omega
      have q1 : IntKind.i64.wrap ((k : Int) / 4) = (k : Int) / 4 := IntWalk.i64_in _ (by omega)
      have q2 : (k : Int).tmod 4 = (k : Int) % 4 := IntWalk.rem_in _ _ (by omega)
      have q3 : (0 : Int) ≤ (k : Int) % 4 := by omega
      have q4 : (k : Int) % 4 < 4 := by omega
      have q5 : (0 : Int) ≤ (k : Int) / 4 := by omega
      have q6 : (k : Int) / 4 < 4 := by omega
      have q7 : ((k : Int) % 4).toNat * 4 + ((k : Int) / 4).toNat = k % 4 * 4 + k / 4 := by omega
      refine wp_region_still_tail 9 (by kernel_rfl) (by kernel_rfl) ?_
      simp only [List.take_succ_cons, List.take_zero, List.drop_succ_cons, List.drop_zero]
      change wpStill _ _ wr.drew (fun a' => wpList _ _ _ _ a' wr.drew) _ _
      iterate 9 still_step
      refine wpStill_nil ?_
      go_wp2
      go_roundw
      case rel => exact ⟨k + 1, by omega, by go_num, (HA.out.other (by show w.heap.size + 1 + 1 ≠ w.heap.size; omega) _).drew, (HZ.out.other (by show w.heap.size + 1 + 1 ≠ w.heap.size + 1; omega) _).drew, by rw [← trTo_step f hlt]; exact (HD.out.set (trP k) _).drew, (HW.out.setCell (by show w.heap.size ≤ w.heap.size + 1 + 1; omega) _).drew⟩
      case measure => simp [intOf]; omega
    · obtain rfl : k = 16 := by omega
      clear ha hz hd hw
      go_wp2_with (first
        | (refine wpList_load_row rfl 94 _ rfl (w.heap.size + 1 + 1) rfl 94 (cellsOf .u8 (mk 16 (trK f))) (0, 0) _ (by rw [← trTo_end]; exact HD.out) tblUnder rfl (tblSize _) ?_)
        | (refine wpList_store_row rfl 94 _ _ rfl (w.heap.size + 1) _ rfl rfl 94 (cellsOf .u8 (mk 16 zeroK)) HZ.out (tblSize _) (by rw [cellsOf_size, cellsOf_size, mk_len, mk_len]) (cellsOf_one _ _) ?_))
      refine bodyPost_ret (results_cell_row rfl _ _ (w.heap.size + 1) 94 (cellsOf .u8 (mk 16 (trK f))) (0, 0) _ rfl (HZ.out.setRow .u8 (mk 16 (trK f))) tblUnder rfl (tblSize _)) rfl ⟨rfl, below_setRow HW.out (by omega) _⟩

set_option maxRecDepth 100000 in
set_option maxHeartbeats 1000000 in
theorem block_any (f : Nat → Nat) (w : World) :
    Calls Try.prog 52 #[.agg (cellsOf .u8 (mk 16 f))] w fun e w' => e = .returned (.agg (cellsOf .u8 (mk 16 (trK f)))) ∧ Below w.heap.size w w' := by
  go_enter Try.func52, Try.ntmps52
  go_wp2
  go_loopw [4] (fun v4 wr => ∃ k : Nat, k ≤ 16 ∧ v4 = .int .i64 k ∧ IntBlk wr w.heap.size .u8 94 (mk 16 f) ∧ IntBlk wr (w.heap.size + 1) .u8 65 (mk 16 zeroK) ∧ IntBlk wr (w.heap.size + 1 + 1) .u8 65 (mk 16 (blTo f k)) ∧ Below w.heap.size w wr) (fun v4 _ => 16 - (intOf v4).toNat)
  case atStart => exact ⟨0, by omega, rfl, blk_first w .u8 _ (mk 16 f) _ _, blk_second w .u8 _ (mk 16 zeroK) _ _, by rw [blTo_start]; exact blk_third w .u8 _ (mk 16 zeroK) _ _, below_three w _ _ _⟩
  case round =>
    obtain ⟨k, hk, rfl, ha, hz, hd, hw⟩ := hrel
    have HA := Lib.hid ha
    have HZ := Lib.hid hz
    have HD := Lib.hid hd
    have HW := Lib.hid hw
    by_cases hlt : k < 16
    · have hx : k % 4 * 4 + k / 4 < 16 := by omega
      have c1 := ha.cell (i := k % 4 * 4 + k / 4) (by rw [mk_len]; exact hx)
      rw [mk_get hx] at c1
      have f1 := ha.free (k % 4 * 4 + k / 4)
      have c3 := hd.cell (i := k) (by rw [mk_len]; exact hlt)
      have f3 := hd.free k
      have q2 : (k : Int).tmod 4 = (k : Int) % 4 := IntWalk.rem_in _ _ (by omega)
      have q3 : (0 : Int) ≤ (k : Int) % 4 := by omega
      have q4 : (k : Int) % 4 < 4 := by omega
      have q5 : (0 : Int) ≤ (k : Int) / 4 := by omega
      have q6 : (k : Int) / 4 < 4 := by omega
      have q7 : ((k : Int) % 4).toNat * 4 + ((k : Int) / 4).toNat = k % 4 * 4 + k / 4 := by omega
      clear ha hz hd hw
      go_wp2
      go_roundw
      case rel => exact ⟨k + 1, by omega, by go_num, HA.out.other (by show w.heap.size + 1 + 1 ≠ w.heap.size; omega) _, HZ.out.other (by show w.heap.size + 1 + 1 ≠ w.heap.size + 1; omega) _, by rw [← blTo_step]; exact HD.out.set k _, HW.out.setCell (by show w.heap.size ≤ w.heap.size + 1 + 1; omega) _⟩
      case measure => simp [intOf]; omega
    · obtain rfl : k = 16 := by omega
      clear ha hz hd hw
      go_wp2_with (first
        | (refine wpList_load_row rfl 65 _ rfl (w.heap.size + 1 + 1) rfl 65 (cellsOf .u8 (mk 16 (trK f))) (0, 0) _ (by rw [← blTo_end]; exact HD.out) keyUnder rfl (keySize _) ?_)
        | (refine wpList_store_row rfl 65 _ _ rfl (w.heap.size + 1) _ rfl rfl 65 (cellsOf .u8 (mk 16 zeroK)) HZ.out (keySize _) (by rw [cellsOf_size, cellsOf_size, mk_len, mk_len]) (cellsOf_one _ _) ?_))
      refine bodyPost_ret (results_cell_row rfl _ _ (w.heap.size + 1) 65 (cellsOf .u8 (mk 16 (trK f))) (0, 0) _ rfl (HZ.out.setRow .u8 (mk 16 (trK f))) keyUnder rfl (keySize _)) rfl ⟨rfl, below_setRow HW.out (by omega) _⟩

theorem size_setRow (w : World) (g : Nat) (cs : Array Value) : (w.setRow g cs).heap.size = w.heap.size := by simp [World.setRow]
theorem blk_row_new (w : World) (o : Obj) (g : Nat) (cs : Array Value) (k : IntKind) (t : TypeId) (l : List Int) : IntBlk (((w.alloc o).setRow g cs).alloc (.cells (cellsOf k l) t)) (w.heap.size + 1) k t l := by
  have h := IntBlk.new ((w.alloc o).setRow g cs) k t l
  rw [size_setRow, World.size_alloc] at h; exact h

set_option maxRecDepth 100000 in
set_option maxHeartbeats 1000000 in
theorem refShift_any (f : Nat → Nat) (w : World) :
    Calls Try.prog 41 #[.agg (cellsOf .u8 (mk 16 f))] w fun e w' => e = .returned (.agg (cellsOf .u8 (mk 16 (shK f)))) ∧ Below w.heap.size w w' := by
  rw [← sh_is]
  go_enter Try.func41, Try.ntmps41
  go_wp2_with (first
    | (refine wpList_load_row rfl 65 _ rfl w.heap.size rfl 65 (cellsOf .u8 (mk 16 f)) (0, 0) _ ((IntBlk.new w .u8 65 (mk 16 f)).alloc _) keyUnder rfl (keySize f) ?_)
    | fail)
  refine (table_any f _).mono ?_
  rintro e w1 ⟨rfl, hb1⟩
  go_wp2_with (first
    | (refine store_row_on rfl 94 _ _ rfl rfl w1.heap.size (cellsOf .u8 (mk 16 (trK f))) rfl rfl 94 (cellsOf .u8 (mk 16 zeroK)) (IntBlk.new w1 .u8 94 (mk 16 zeroK)) (tblSize _) (by rw [cellsOf_size, cellsOf_size, mk_len, mk_len]) (cellsOf_one _ _) ?_)
    | fail)
  have B1 := (blk_two w .u8 65 (mk 16 zeroK) (.cells (cellsOf .u8 (mk 16 f)) 65)).below hb1 (by simp)
  have L1 : Below w.heap.size w w1 := (below_two w _ _).trans (hb1.mono (by simp; omega))
  have hs : w.heap.size + 2 ≤ w1.heap.size := by have := hb1.size; simp at this; omega
  clear hb1
  go_loopw [5] (fun v5 wr => ∃ r : Nat, r ≤ 4 ∧ v5 = .int .i64 r ∧ IntBlk wr (w.heap.size + 1) .u8 65 (mk 16 zeroK) ∧ IntBlk wr w1.heap.size .u8 94 (mk 16 (trK f)) ∧ IntBlk wr (w1.heap.size + 1) .u8 94 (mk 16 (roTo (trK f) (r * 4))) ∧ Below w.heap.size w wr) (fun v5 _ => 4 - (intOf v5).toNat)
  case atStart =>
    exact ⟨0, by omega, rfl, ((B1.alloc _).otherRow (by omega) _).alloc _, ((IntBlk.new w1 .u8 94 (mk 16 zeroK)).setRow .u8 (mk 16 (trK f))).alloc _, by rw [roTo_start]; exact blk_row_new w1 _ _ _ .u8 94 (mk 16 zeroK), (below_setRow (L1.alloc (by omega) _) (by omega) _).alloc (by rw [size_setRow]; simp; omega) _⟩
  case round =>
    obtain ⟨r, hr, rfl, hz, ha, hd, hw⟩ := hrel
    have HZ := Lib.hid hz
    have HA := Lib.hid ha
    have HD := Lib.hid hd
    have HW := Lib.hid hw
    clear hz ha hd hw B1 L1
    by_cases hlt : r < 4
    · have hr1 : decide ((r : Int) < 4) = true := by simp; omega
      go_wp2
      go_loopw [6] (fun v6 wr => ∃ c : Nat, c ≤ 4 ∧ v6 = .int .i64 c ∧ IntBlk wr (w.heap.size + 1) .u8 65 (mk 16 zeroK) ∧ IntBlk wr w1.heap.size .u8 94 (mk 16 (trK f)) ∧ IntBlk wr (w1.heap.size + 1) .u8 94 (mk 16 (roTo (trK f) (r * 4 + c))) ∧ Below w.heap.size w wr) (fun v6 _ => 4 - (intOf v6).toNat)
      case atStart => exact ⟨0, by omega, rfl, HZ.out, HA.out, HD.out, HW.out⟩
      case round =>
        clear HZ HA HD HW
        obtain ⟨c, hc, rfl, hz, ha, hd, hw⟩ := hrel
        have HZ := Lib.hid hz
        have HA := Lib.hid ha
        have HD := Lib.hid hd
        have HW := Lib.hid hw
        by_cases hlc : c < 4
        · have e0 : roP (r * 4 + c) = r * 4 + (c + r) % 4 := by unfold roP; omega
          have hx : r * 4 + (c + r) % 4 < 16 := by omega
          have hy : r * 4 + c < 16 := by omega
          have c1 := ha.cell (i := r * 4 + (c + r) % 4) (by rw [mk_len]; exact hx)
          rw [mk_get hx] at c1
          have f1 := ha.free (r * 4 + (c + r) % 4)
          have c3 := hd.cell (i := r * 4 + c) (by rw [mk_len]; exact hy)
          have f3 := hd.free (r * 4 + c)
          clear ha hz hd hw
          go_wp2
          have e1 : (r : Int) < 4 := by omega
          have e2 : (0 : Int) ≤ r := by omega
          have e3 : (c : Int) < 4 := by omega
          have e4 : (0 : Int) ≤ c := by omega
          have q1 : IntKind.i64.wrap ((c : Int) + r) = (c : Int) + r := IntWalk.i64_in _ (by omega)
          have q2 : ((c : Int) + r).tmod 4 = ((c : Int) + r) % 4 := IntWalk.rem_in _ _ (by omega)
          have q3 : (0 : Int) ≤ ((c : Int) + r) % 4 := by omega
          have q4 : ((c : Int) + r) % 4 < 4 := by omega
          have q7 : r * 4 + (((c : Int) + r) % 4).toNat = r * 4 + (c + r) % 4 := by omega
          refine wp_region_still_tail 12 (by kernel_rfl) (by kernel_rfl) ?_
          simp only [List.take_succ_cons, List.take_zero, List.drop_succ_cons, List.drop_zero]
          change wpStill _ _ wr.drew (fun a' => wpList _ _ _ _ a' wr.drew) _ _
          iterate 12 still_step
          refine wpStill_nil ?_
          go_wp2
          go_roundw
          case rel => exact ⟨c + 1, by omega, by go_num, (HZ.out.other (by show w1.heap.size + 1 ≠ w.heap.size + 1; omega) _).drew, (HA.out.other (by show w1.heap.size + 1 ≠ w1.heap.size; omega) _).drew, by rw [show r * 4 + (c + 1) = r * 4 + c + 1 from rfl, ← roTo_step, e0]; exact (HD.out.set (r * 4 + c) _).drew, (HW.out.setCell (by show w.heap.size ≤ w1.heap.size + 1; omega) _).drew⟩
          case measure => simp [intOf]; omega
        · obtain rfl : c = 4 := by omega
          clear ha hz hd hw
          go_wp2
          go_roundw
          case rel => exact ⟨r + 1, by omega, by go_num, HZ.out, HA.out, by rw [show (r + 1) * 4 = r * 4 + 4 by omega]; exact HD.out, HW.out⟩
          case measure => simp [intOf]; omega
    · obtain rfl : r = 4 := by omega
      go_wp2_with (first
        | (refine wpList_load_row rfl 94 _ rfl (w1.heap.size + 1) rfl 94 (cellsOf .u8 (mk 16 (fun j => trK f (roP j)))) (0, 0) _ (by rw [← roTo_end]; exact HD.out) tblUnder rfl (tblSize _) ?_)
        | fail)
      refine (block_any _ _).mono ?_
      rintro e w2 ⟨rfl, hb2⟩
      have HZ2 := Lib.hid (HZ.out.below hb2 HZ.out.lt)
      have HW2 := Lib.hid (HW.out.trans (hb2.mono HW.out.size))
      clear hb2 HZ HA HD HW
      go_wp2_with (refine wpList_store_row rfl 65 _ _ rfl (w.heap.size + 1) _ rfl rfl 65 (cellsOf .u8 (mk 16 zeroK)) HZ2.out (keySize _) (by rw [cellsOf_size, cellsOf_size, mk_len, mk_len]) (cellsOf_one _ _) ?_)
      refine bodyPost_ret (results_cell_row rfl _ _ (w.heap.size + 1) 65 (cellsOf .u8 (mk 16 (trK (fun j => trK f (roP j))))) (0, 0) _ rfl (HZ2.out.setRow .u8 (mk 16 (trK (fun j => trK f (roP j))))) keyUnder rfl (keySize _)) rfl ⟨rfl, below_setRow HW2.out (by omega) _⟩
end Go.Proofs.Ytghdeedglekphaa

/- The contracts of package citadelref03's mul and Mix: each answers what the plain functions say, and writes nothing that was there. Condition: the arguments' bytes are bytes. -/
namespace Go.Proofs.Ytghdeedglekphaa
open Go.ChangeShapes Go.WideShapes Go.ChangeAt Go.RowKit

/-- Two bytes added. -/
theorem quiet_byte_xor {o : Oper} {a : Act} {C : World → Prop} {K : Act → Prop} (x y : Operand) (ho : o.op = .binOp .xor 5 x y 5) (b c : Nat)
    (hx : a.eval x = .int .u8 b) (hy : a.eval y = .int .u8 c) (hb : b < 256) (hc : c < 256) (hk : K (a.put o.dst (.int .u8 (b ^^^ c : Nat)))) : o.quiet Try.prog a C K := by
  refine quiet_value _ (fun w _ => ?_) hk
  have e := bits_xor_u8 hb hc
  unfold execOp
  simp only [ho, hx, hy]
  simp [go_sem, e]
/-- A call of a function of two bytes. -/
theorem quiet_bytes {o : Oper} {a : Act} {C : World → Prop} {K : Act → Prop} (x y z : Operand) (ts : Array TypeId) (ho : o.op = .call { callee := .value x, args := #[y, z], argTypes := ts }) (g : FuncId) (hx : a.eval x = .func (.func g) #[] #[])
    (b c : Nat) (hy : a.eval y = .int .u8 b) (hz : a.eval z = .int .u8 c) (r : Nat) (hf : ∀ (args : Array Value) (w : World), (callFunc g args).run Try.prog w = .ok (.enter g args) w)
    (hc : ∀ w, C w → Calls Try.prog g #[.int .u8 b, .int .u8 c] w fun e w' => e = .returned (.int .u8 (r : Nat)) ∧ C w') (hk : K (a.put o.dst (.int .u8 (r : Nat)))) : o.quiet Try.prog a C K :=
  quiet_calls x #[y, z] ts ho g _ _ hx (by simp only [List.map_toArray, List.map_cons, List.map_nil, hy, hz]) (fun w => hf _ w) hc hk

theorem refmul_any (x y : Nat) (hx : x < 256) (hy : y < 256) (w : World) :
    Calls Try.prog 53 #[.int .u8 (x : Int), .int .u8 (y : Int)] w fun e w' => e = .returned (.int .u8 (mul x y : Nat)) ∧ Below w.heap.size w w' := by
  have hm : mulI (x : Int) (y : Int) = (mul x y : Nat) := by simp [mulI]
  go_enter Try.func53, Try.ntmps53
  go_wp2_with (go_at_call 50; refine (refMul_any _ _ (by omega) (by omega) (by omega) (by omega) _).mono ?_; rintro e w' ⟨rfl, hb⟩)
  go_ret
  exact ⟨rfl, hb⟩
theorem call_refmul (args : Array Value) (w : World) : (callFunc 53 args).run Try.prog w = .ok (.enter 53 args) w := by simp [go_sem]

def rmK (f : Nat → Nat) (i : Nat) : Nat :=
  if i = 0 then ((mul (f 0) 2 ^^^ mul (f 1) 3) ^^^ f 2) ^^^ f 3
  else if i = 1 then ((f 0 ^^^ mul (f 1) 2) ^^^ mul (f 2) 3) ^^^ f 3
  else if i = 2 then ((f 0 ^^^ f 1) ^^^ mul (f 2) 2) ^^^ mul (f 3) 3
  else ((mul (f 0) 3 ^^^ f 1) ^^^ f 2) ^^^ mul (f 3) 2
theorem mul_one_is (x : Nat) : mul x 1 = x := mul_one'
theorem rmK_is (f : Nat → Nat) : mk 4 (rmK f) = mk 4 (mixK f) := by
  refine mk_ext fun i hi => ?_
  rcases (show i = 0 ∨ i = 1 ∨ i = 2 ∨ i = 3 by omega) with rfl | rfl | rfl | rfl <;>
    simp [rmK, mixK, mxK, mxS, facM, mul_one_is]
attribute [local irreducible] mul

set_option maxRecDepth 100000 in
set_option maxHeartbeats 4000000 in
theorem refMix_any (f : Nat → Nat) (hf : IsWord f) (w : World) :
    Calls Try.prog 42 #[.agg (cellsOf .u8 (mk 4 f))] w fun e w' => e = .returned (.agg (cellsOf .u8 (mk 4 (mixK f)))) ∧ Below w.heap.size w w' := by
  rw [← rmK_is]
  have h0 := hf 0 (by omega)
  have h1 := hf 1 (by omega)
  have h2 := hf 2 (by omega)
  have h3 := hf 3 (by omega)
  go_enter Try.func42, Try.ntmps42
  go_wp2
  have BA : IntBlk ((w.alloc (.cells (cellsOf .u8 (mk 4 f)) 87)).alloc (.cells (cellsOf .u8 (mk 4 zeroK)) 87)) w.heap.size .u8 87 (mk 4 f) := (IntBlk.new w .u8 87 (mk 4 f)).alloc _
  have BB : IntBlk ((w.alloc (.cells (cellsOf .u8 (mk 4 f)) 87)).alloc (.cells (cellsOf .u8 (mk 4 zeroK)) 87)) (w.heap.size + 1) .u8 87 (mk 4 zeroK) := blk_two w .u8 87 (mk 4 zeroK) _
  have BW := below_two w (.cells (cellsOf .u8 (mk 4 f)) 87) (.cells (cellsOf .u8 (mk 4 zeroK)) 87)
  have BS : w.heap.size ≤ ((w.alloc (.cells (cellsOf .u8 (mk 4 f)) 87)).alloc (.cells (cellsOf .u8 (mk 4 zeroK)) 87)).heap.size := by simp; omega
  change Code.wp _ _ _ _ ((w.alloc (.cells (cellsOf .u8 (mk 4 f)) 87)).alloc (.cells (cellsOf .u8 (mk 4 zeroK)) 87))
  generalize (w.alloc (.cells (cellsOf .u8 (mk 4 f)) 87)).alloc (.cells (cellsOf .u8 (mk 4 zeroK)) 87) = W0 at *
  have BC : ∀ k, k < 4 → ∀ w', Below W0.heap.size W0 w' → w'.cell? ⟨w.heap.size, k, none⟩ = some (.int .u8 (f k)) := fun k hk w' h => by
    have := (BA.below h BA.lt).cell (i := k) (by rw [mk_len]; exact hk)
    rwa [mk_get hk] at this
  have HC := Lib.hid BC
  have HB := Lib.hid (fun (w' : World) (h : Below W0.heap.size W0 w') => BB.below h BB.lt)
  have HW := Lib.hid BW
  clear BA BB BW BC
  refine wp_region_class_tail 53 (fun w' => Below W0.heap.size W0 w') (by kernel_rfl) (by kernel_rfl) ((Below.refl _ _).drew) ?_
  simp only [List.take_succ_cons, List.take_zero, List.drop_succ_cons, List.drop_zero]
  iterate 53 (first
    | go_big_quiet_skip
    | (go_big_quiet_want
       first
         | (go_big_quiet_op; go_big_quiet_on)
         | ((first
             | (refine quiet_place 87 4 _ _ rfl wordUnder w.heap.size 0 rfl rfl (by omega) ?_)
             | (refine quiet_place 87 4 _ _ rfl wordUnder w.heap.size 1 rfl rfl (by omega) ?_)
             | (refine quiet_place 87 4 _ _ rfl wordUnder w.heap.size 2 rfl rfl (by omega) ?_)
             | (refine quiet_place 87 4 _ _ rfl wordUnder w.heap.size 3 rfl rfl (by omega) ?_)
             | (refine quiet_byte_load _ rfl w.heap.size 0 _ rfl (HC.out 0 (by omega)) ?_)
             | (refine quiet_byte_load _ rfl w.heap.size 1 _ rfl (HC.out 1 (by omega)) ?_)
             | (refine quiet_byte_load _ rfl w.heap.size 2 _ rfl (HC.out 2 (by omega)) ?_)
             | (refine quiet_byte_load _ rfl w.heap.size 3 _ rfl (HC.out 3 (by omega)) ?_)
             | (refine quiet_bytes _ _ _ _ rfl 53 rfl _ 2 rfl rfl _ call_refmul (class_of (refmul_any _ _ (by assumption) (by omega))) ?_)
             | (refine quiet_bytes _ _ _ _ rfl 53 rfl _ 3 rfl rfl _ call_refmul (class_of (refmul_any _ _ (by assumption) (by omega))) ?_)
             | (refine quiet_byte_xor _ _ rfl _ _ rfl rfl (by repeat (first | assumption | apply xor_lt | apply mul_lt)) (by repeat (first | assumption | apply xor_lt | apply mul_lt)) ?_)
             | (refine quiet_built 87 _ rfl _ rfl 4 (rmK f) (by kernel_rfl) ?_)); go_simp; go_big_quiet_on)))
  refine wpQuiet_nil ?_
  intro w1 hw1
  have HZ := Lib.hid (HB.out _ hw1)
  have H1 := Lib.hid (HW.out.trans (hw1.mono BS)); clear hw1 HB HC
  go_wp2_with (refine wpList_store_row rfl 87 _ _ rfl (w.heap.size + 1) _ rfl rfl 87 (cellsOf .u8 (mk 4 zeroK)) HZ.out (wordSize _) (by rw [cellsOf_size, cellsOf_size, mk_len, mk_len]) (cellsOf_one _ _) ?_)
  refine bodyPost_ret (results_cell_row rfl _ _ (w.heap.size + 1) 87 (cellsOf .u8 (mk 4 (rmK f))) (0, 0) _ rfl (HZ.out.setRow .u8 (mk 4 (rmK f))) wordUnder rfl (wordSize _)) rfl ⟨rfl, below_setRow H1.out (by omega) _⟩
end Go.Proofs.Ytghdeedglekphaa

/- Laws of the operations on keys for regions walked by one order: what only computes, and slices made of keys. No condition. -/
namespace Go.Proofs.Ytghdeedglekphaa
open Go.ChangeShapes Go.WideShapes Go.ChangeAt Go.RowKit

section
variable {o : Oper} {a : Act} {C : World → Prop} {K : Act → Prop}
theorem gives_key_load (x : Operand) (ho : o.op = .load 65 x) (B : Nat) (f : Nat → Nat) (hx : a.eval x = .pointer (some ⟨B, 0, none⟩)) (hB : ∀ w, C w → IntBlk w B .u8 65 (mk 16 f)) (hk : K (a.put o.dst (.agg (cellsOf .u8 (mk 16 f))))) :
    ∃ v, Gives Try.prog C o a v ∧ K (a.put o.dst v) :=
  ⟨_, fun w hw => by
    unfold execOp
    simp only [ho, hx, Instr.loadAt, Instr.sureAddr, Sem.run_bind, Sem.run_pure, Result.andThen_ok, run_loadVar_row w B 65 65 _ (0, 0) _ (hB w hw) keyUnder rfl (keySize f)], hk⟩
theorem gives_part (ty : TypeId) (x : Operand) (ho : o.op = .load ty x) (B off n : Nat) (f : Nat → Nat) (hx : a.eval x = .pointer (some ⟨B, off, none⟩)) (hc : ∀ w, C w → Cells w B off n f)
    (m : Nat) (e : TypeId) (hu : Try.prog.underlying ty = some (.array m e)) (hi : (Try.prog.info? ty).map (·.size) = some n) (hk : K (a.put o.dst (.agg (cellsOf .u8 (mk n f))))) :
    ∃ v, Gives Try.prog C o a v ∧ K (a.put o.dst v) :=
  ⟨_, fun w hw => by
    unfold execOp
    simp only [ho, hx, Instr.loadAt, Instr.sureAddr, Sem.run_bind, Sem.run_pure, Result.andThen_ok, run_loadVar_part B off n f ty _ (hc w hw) hu rfl hi], hk⟩
theorem gives_built (ty : TypeId) (xs : List (Nat × Operand)) (ho : o.op = .build ty ⟨xs⟩) (ys : List (Nat × Value)) (hx : xs.map (fun p => (p.1, a.eval p.2)) = ys) (n : Nat) (f : Nat → Nat)
    (hf : Try.prog.built ty ys = some (cellsOf .u8 (mk n f))) (hk : K (a.put o.dst (.agg (cellsOf .u8 (mk n f))))) : ∃ v, Gives Try.prog C o a v ∧ K (a.put o.dst v) :=
  ⟨_, fun w _ => by
    have e := run_build w ty (xs.map (fun p => (p.1, a.eval p.2))).toArray (cellsOf .u8 (mk n f)) (by rw [hx]; exact hf)
    unfold execOp
    simp only [ho]
    rw [Sem.run_bind]
    simp only [List.map_toArray] at *
    rw [e]; rfl, hk⟩
theorem gives_pick (c x y : Operand) (ho : o.op = .pick c x y) (hc : a.eval c = .bool true) (v : Value) (hx : a.eval x = v) (hk : K (a.put o.dst v)) : ∃ v, Gives Try.prog C o a v ∧ K (a.put o.dst v) :=
  ⟨_, fun w _ => by
    unfold execOp
    simp only [ho, hc, hx]
    simp [go_sem], hk⟩
theorem gives_key_eql (x y : Operand) (ho : o.op = .binOp .eql 65 x y 65) (f g : Nat → Nat)
    (hx : a.eval x = .agg (cellsOf .u8 (mk 16 f))) (hy : a.eval y = .agg (cellsOf .u8 (mk 16 g))) (h : mk 16 f = mk 16 g) (hk : K (a.put o.dst (.bool true))) : ∃ v, Gives Try.prog C o a v ∧ K (a.put o.dst v) :=
  ⟨.bool true, fun w _ => by
    have e := key_eq g g w
    unfold execOp
    simp only [ho, hx, hy]
    simp [go_sem, e, h], hk⟩
end

section
variable {o : Oper} {a : Act} {C : World → Prop} {K : Act → Prop}
theorem gives_int_mul (x y : Operand) (ho : o.op = .binOp .mul 3 x y 3) (i j r : Int) (hx : a.eval x = .int .i64 i) (hy : a.eval y = .int .i64 j) (h : IntKind.i64.wrap (i * j) = r) (hk : K (a.put o.dst (.int .i64 r))) : ∃ v, Gives Try.prog C o a v ∧ K (a.put o.dst v) :=
  ⟨_, fun w _ => by unfold execOp; simp only [ho, hx, hy]; simp [go_sem, h], hk⟩
theorem gives_int_add (x y : Operand) (ho : o.op = .binOp .add 3 x y 3) (i j r : Int) (hx : a.eval x = .int .i64 i) (hy : a.eval y = .int .i64 j) (h : IntKind.i64.wrap (i + j) = r) (hk : K (a.put o.dst (.int .i64 r))) : ∃ v, Gives Try.prog C o a v ∧ K (a.put o.dst v) :=
  ⟨_, fun w _ => by unfold execOp; simp only [ho, hx, hy]; simp [go_sem, h], hk⟩
theorem gives_int_sub (x y : Operand) (ho : o.op = .binOp .sub 3 x y 3) (i j r : Int) (hx : a.eval x = .int .i64 i) (hy : a.eval y = .int .i64 j) (h : IntKind.i64.wrap (i - j) = r) (hk : K (a.put o.dst (.int .i64 r))) : ∃ v, Gives Try.prog C o a v ∧ K (a.put o.dst v) :=
  ⟨_, fun w _ => by unfold execOp; simp only [ho, hx, hy]; simp [go_sem, h], hk⟩
theorem gives_place (t : TypeId) (n : Nat) (x y : Operand) (ho : o.op = .indexAddr t x y) (ht : Try.prog.underlying t = some (.array n 5)) (B k : Nat) (hx : a.eval x = .pointer (some ⟨B, 0, none⟩)) (hy : a.eval y = .int .i64 k) (hk4 : k < n)
    (hk : K (a.put o.dst (.pointer (some ⟨B, k, none⟩)))) : ∃ v, Gives Try.prog C o a v ∧ K (a.put o.dst v) :=
  ⟨_, fun w _ => by
    have h0 : (k : Int) < n := by omega
    have hs := byteElem.run_size (P := Try.prog) w
    unfold execOp
    simp only [ho, hx, hy]
    simp [go_sem, ht, h0, hs], hk⟩
theorem gives_byte_load (x : Operand) (ho : o.op = .load 5 x) (B k : Nat) (v : Value) (hx : a.eval x = .pointer (some ⟨B, k, none⟩)) (hB : ∀ w, C w → w.cell? ⟨B, k, none⟩ = some v) (hk : K (a.put o.dst v)) : ∃ v, Gives Try.prog C o a v ∧ K (a.put o.dst v) :=
  ⟨_, fun w hw => by
    have hc := hB w hw
    unfold execOp
    simp only [ho, hx]
    simp [go_sem, hc], hk⟩
/-- An element's place in a slice. -/
theorem gives_elem (t e : TypeId) (sz : Nat) (x y : Operand) (ho : o.op = .indexAddr t x y) (ht : Try.prog.underlying t = some (.slice e)) (hi : (Try.prog.info? e).map (·.size) = some sz)
    (B off n cap k : Nat) (hx : a.eval x = .slice (some ⟨B, off, none⟩) n cap) (hy : a.eval y = .int .i64 k) (hk4 : k < n) (hk : K (a.put o.dst (.pointer (some ⟨B, off + k * sz, none⟩)))) : ∃ v, Gives Try.prog C o a v ∧ K (a.put o.dst v) :=
  ⟨_, fun w _ => by
    have h0 : (k : Int) < n := by omega
    cases hq : Try.prog.info? e with
    | none => simp [hq] at hi
    | some i =>
      have hs : i.size = sz := by simpa [hq] using hi
      unfold execOp
      simp only [ho, hx, hy]
      simp [go_sem, ht, h0, sizeOf, typeInfo, hq, hs, Addr.add], hk⟩
theorem gives_key_neq (x y : Operand) (ho : o.op = .binOp .neq 65 x y 65) (f g : Nat → Nat)
    (hx : a.eval x = .agg (cellsOf .u8 (mk 16 f))) (hy : a.eval y = .agg (cellsOf .u8 (mk 16 g))) (h : mk 16 f = mk 16 g) (hk : K (a.put o.dst (.bool false))) : ∃ v, Gives Try.prog C o a v ∧ K (a.put o.dst v) :=
  ⟨.bool false, fun w _ => by
    have e := key_eq g g w
    unfold execOp
    simp only [ho, hx, hy]
    simp [go_sem, e, h], hk⟩
end
/-- A new variable, a whole array stored, a call of one argument. -/
theorem done_alloc {o : Oper} {a : Act} {w : World} {K : Value → World → Prop} (t : TypeId) (ho : o.op = .alloc t) (cells : Array Value) (hz : (zeroValue t).run Try.prog w = .ok (.agg cells) w)
    (h : K (.pointer (some ⟨w.heap.size, 0, none⟩)) (w.alloc (.cells cells t))) : doneAt Try.prog o a w K := by
  unfold doneAt execOp
  simp only [ho]
  simp [go_sem, hz]
  exact h
theorem done_store {o : Oper} {a : Act} {w : World} {K : Value → World → Prop} (ty : TypeId) (x y : Operand) (ho : o.op = .store ty x y) (g : Nat) (cells : Array Value) (hx : a.eval x = .pointer (some ⟨g, 0, none⟩)) (hy : a.eval y = .agg cells)
    (t : TypeId) (old : Array Value) (hg : w.heap[g]? = some (.cells old t (0, 0))) (hi : (Try.prog.info? ty).map (·.size) = some cells.size) (hold : old.size = cells.size) (h1 : cells.all (·.oneCell') = true) (h : K undef (w.setRow g cells)) : doneAt Try.prog o a w K := by
  unfold doneAt execOp
  simp only [ho, hx, hy, Instr.storeAt, Instr.sureAddr, Sem.run_bind, Sem.run_pure, Result.andThen_ok, run_storeVar_row w g t ty old cells hg hi hold h1]
  exact h
theorem done_call1 {o : Oper} {a : Act} {w : World} {K : Value → World → Prop} (x y : Operand) (ts : Array TypeId) (ho : o.op = .call { callee := .value x, args := #[y], argTypes := ts }) (g : FuncId) (hx : a.eval x = .func (.func g) #[] #[])
    (u : Value) (hy : a.eval y = u) (hf : ∀ (args : Array Value) (w : World), (callFunc g args).run Try.prog w = .ok (.enter g args) w) (r : Value)
    (hc : Calls Try.prog g #[u] w fun e w' => e = .returned r ∧ Below w.heap.size w w') (hk : ∀ w', Below w.heap.size w w' → K r w') : doneAt Try.prog o a w K :=
  done_call x #[y] ts ho g #[u] hx (by simp only [List.map_toArray, List.map_cons, List.map_nil, hy]) (hf _ w) (hc.mono fun _ w' ⟨he, hb⟩ => ⟨r, he, hk w' hb⟩)
theorem wordZero_run (W : World) : (zeroValue 87).run Try.prog W = .ok (.agg (cellsOf .u8 (mk 4 zeroK))) W := by
  have h : (Try.prog.info? 87).bind (·.zero) = some (.agg (cellsOf .u8 (mk 4 zeroK))) := by kernel_rfl
  cases hq : Try.prog.info? 87 with
  | none => rw [hq] at h; simp at h
  | some i =>
    rw [hq] at h
    simp only [Option.bind_some] at h
    simp [zeroValue, typeInfo, hq, h]

/-- Two keys, one behind the other. -/
def twoK (f g : Nat → Nat) : Nat → Nat := fun j => if j < 16 then f j else g (j - 16)
theorem keyZero : (Try.prog.info? 65).bind (·.zero) = some (.agg (cellsOf .u8 (mk 16 zeroK))) := by kernel_rfl
theorem keyInfo1 : (Try.prog.info? 65).map (·.size) = some 16 := by kernel_rfl
theorem keysUnder1 : Try.prog.underlying 61 = some (.slice 65) := Try.underlying61
theorem fill1 (f : Nat → Nat) : Instr.fill (fun i => some (i * 16, 16)) ((Array.range (1 * 16)).map ((cellsOf .u8 (mk 16 zeroK))[· % (cellsOf .u8 (mk 16 zeroK)).size]!)) [(0, .agg (cellsOf .u8 (mk 16 f)))] = some (cellsOf .u8 (mk 16 f)) := by kernel_rfl
theorem fill2 (f g : Nat → Nat) : Instr.fill (fun i => some (i * 16, 16)) ((Array.range (2 * 16)).map ((cellsOf .u8 (mk 16 zeroK))[· % (cellsOf .u8 (mk 16 zeroK)).size]!)) [(0, .agg (cellsOf .u8 (mk 16 f))), (1, .agg (cellsOf .u8 (mk 16 g)))] = some (cellsOf .u8 (mk 32 (twoK f g))) := by kernel_rfl
theorem run_keys1 (f : Nat → Nat) (w : World) : (Instr.buildSlice 61 1 #[(0, .agg (cellsOf .u8 (mk 16 f)))]).run Try.prog w = .ok (.slice (some ⟨w.heap.size, 0, none⟩) 1 1) (w.alloc (.cells (cellsOf .u8 (mk 16 f)) 65)) := by
  have hi := keyInfo1
  have hz := keyZero
  cases hq : Try.prog.info? 65 with
  | none => rw [hq] at hi; simp at hi
  | some i =>
    rw [hq] at hi hz
    have hs : i.size = 16 := by simpa using hi
    have hzz : i.zero = some (.agg (cellsOf .u8 (mk 16 zeroK))) := by simpa using hz
    refine run_buildSlice w 61 65 1 _ _ i _ keysUnder1 hq hzz (by rw [hs]; omega) (by rw [hs]; omega) ?_
    rw [hs]; exact fill1 f
theorem run_keys2 (f g : Nat → Nat) (w : World) : (Instr.buildSlice 61 2 #[(0, .agg (cellsOf .u8 (mk 16 f))), (1, .agg (cellsOf .u8 (mk 16 g)))]).run Try.prog w = .ok (.slice (some ⟨w.heap.size, 0, none⟩) 2 2) (w.alloc (.cells (cellsOf .u8 (mk 32 (twoK f g))) 65)) := by
  have hi := keyInfo1
  have hz := keyZero
  cases hq : Try.prog.info? 65 with
  | none => rw [hq] at hi; simp at hi
  | some i =>
    rw [hq] at hi hz
    have hs : i.size = 16 := by simpa using hi
    have hzz : i.zero = some (.agg (cellsOf .u8 (mk 16 zeroK))) := by simpa using hz
    refine run_buildSlice w 61 65 2 _ _ i _ keysUnder1 hq hzz (by rw [hs]; omega) (by rw [hs]; omega) ?_
    rw [hs]; exact fill2 f g
/-- A slice made of one key, and of two. -/
theorem done_keys1 {o : Oper} {a : Act} {w : World} {K : Value → World → Prop} (x : Operand) (ho : o.op = .buildSlice 61 1 #[(0, x)]) (f : Nat → Nat) (hx : a.eval x = .agg (cellsOf .u8 (mk 16 f)))
    (h : K (.slice (some ⟨w.heap.size, 0, none⟩) 1 1) (w.alloc (.cells (cellsOf .u8 (mk 16 f)) 65))) : doneAt Try.prog o a w K := by
  have e := run_keys1 f w
  unfold doneAt execOp
  simp only [ho]
  simp [hx, e]
  exact h
theorem done_keys2 {o : Oper} {a : Act} {w : World} {K : Value → World → Prop} (x y : Operand) (ho : o.op = .buildSlice 61 2 #[(0, x), (1, y)]) (f g : Nat → Nat) (hx : a.eval x = .agg (cellsOf .u8 (mk 16 f))) (hy : a.eval y = .agg (cellsOf .u8 (mk 16 g)))
    (h : K (.slice (some ⟨w.heap.size, 0, none⟩) 2 2) (w.alloc (.cells (cellsOf .u8 (mk 32 (twoK f g))) 65))) : doneAt Try.prog o a w K := by
  have e := run_keys2 f g w
  unfold doneAt execOp
  simp only [ho]
  simp [hx, hy, e]
  exact h
/-- A call of a function of two arguments, which makes memory of its own alone. -/
theorem done_call2 {o : Oper} {a : Act} {w : World} {K : Value → World → Prop} (x y z : Operand) (ts : Array TypeId) (ho : o.op = .call { callee := .value x, args := #[y, z], argTypes := ts }) (g : FuncId) (hx : a.eval x = .func (.func g) #[] #[])
    (u v : Value) (hy : a.eval y = u) (hz : a.eval z = v) (hf : ∀ (args : Array Value) (w : World), (callFunc g args).run Try.prog w = .ok (.enter g args) w) (r : Value)
    (hc : Calls Try.prog g #[u, v] w fun e w' => e = .returned r ∧ Below w.heap.size w w') (hk : ∀ w', Below w.heap.size w w' → K r w') : doneAt Try.prog o a w K :=
  done_call x #[y, z] ts ho g #[u, v] hx (by simp only [List.map_toArray, List.map_cons, List.map_nil, hy, hz]) (hf _ w) (hc.mono fun _ w' ⟨he, hb⟩ => ⟨r, he, hk w' hb⟩)
end Go.Proofs.Ytghdeedglekphaa

/- The contract of package citadelref03's Encrypt: it answers the key that the plain functions say, with any round keys, and writes nothing that was there. Conditions: all bytes are bytes; there are fewer than 2^32 round keys. -/
namespace Go.Proofs.Ytghdeedglekphaa
open Go.ChangeShapes Go.WideShapes Go.ChangeAt Go.RowKit

/-- The first q bytes are another key's. -/
def upTo (F G : Nat → Nat) (q : Nat) : Nat → Nat := fun p => if p < q then F p else G p
theorem upTo_start (n : Nat) (F G : Nat → Nat) : mk n (upTo F G 0) = mk n G := mk_ext fun j _ => by unfold upTo; rw [if_neg (by omega)]
theorem upTo_end (n : Nat) (F G : Nat → Nat) : mk n (upTo F G n) = mk n F := mk_ext fun j hj => by unfold upTo; rw [if_pos hj]
theorem upTo_at (F G : Nat → Nat) (q : Nat) : upTo F G q q = G q := by unfold upTo; rw [if_neg (by omega)]
theorem upTo_step (n : Nat) (F G : Nat → Nat) (q : Nat) : (mk n (upTo F G q)).set q (F q : Nat) = mk n (upTo F G (q + 1)) := by
  refine mk_set_is rfl fun j _ => ?_
  unfold upTo
  by_cases e : j = q
  · subst e; rw [if_pos rfl, if_pos (by omega)]
  · rw [if_neg e]
    by_cases l : j < q
    · rw [if_pos l, if_pos (by omega)]
    · rw [if_neg l, if_neg (by omega)]
theorem col_place (m : (Nat → Nat) → Nat → Nat) (s : Nat → Nat) {c j : Nat} (hj : j < 4) : colK m s (4 * c + j) = m (colAt s c) j := by
  unfold colK; rw [show (4 * c + j) / 4 = c by omega, show (4 * c + j) % 4 = j by omega]
theorem subK_at (s : Nat → Nat) (b : Nat) : subK s b = subN (s b) := rfl
theorem call_refmix3 (args : Array Value) (w : World) : (callFunc 42 args).run Try.prog w = .ok (.enter 42 args) w := by simp [go_sem]
attribute [local irreducible] inE inD encTo decTo xorK shK unK subK bakK colK mixK unmK subN upTo

set_option maxRecDepth 100000 in
set_option maxHeartbeats 8000000 in
theorem refEncrypt_any (p : Option Addr) (n cap : Nat) (R : Nat → Nat → Nat) (f : Nat → Nat) (hR : ∀ i, i < n → IsKey (R i)) (hf : IsKey f) (hn : n < 4294967296) (w : World) (hp : KeysAt w p n R) :
    Calls Try.prog 29 #[.slice p n cap, .agg (cellsOf .u8 (mk 16 f))] w fun e w' => e = .returned (.agg (cellsOf .u8 (mk 16 (encK R n f)))) ∧ Below w.heap.size w w' := by
  have q1 : IntKind.i64.wrap ((n : Int) - 1) = (n : Int) - 1 := IntWalk.i64_in _ (by omega)
  have hz0 := tabZero_run
  rw [encK_is]
  go_enter Try.func29, Try.ntmps29
  go_wp2_with fail
  refine (Table_any _).mono ?_
  rintro e w1 ⟨rfl, hb⟩
  have ha := ((IntBlk.new w .u8 65 (mk 16 f)).alloc (.cells (cellsOf .u8 (mk 16 zeroK)) 65)).below hb (by simp; omega)
  have hz := (blk_two w .u8 65 (mk 16 zeroK) (.cells (cellsOf .u8 (mk 16 f)) 65)).below hb (by simp)
  have hw := (below_two w (.cells (cellsOf .u8 (mk 16 f)) 65) (.cells (cellsOf .u8 (mk 16 zeroK)) 65)).trans (hb.mono (by simp; omega))
  have hT : w.heap.size + 1 < w1.heap.size := hz.lt
  clear hb
  have A := Lib.hid ((ha.alloc (.cells (cellsOf .u8 (mk 256 zeroK)) 84)).otherRow (C := w1.heap.size) (by omega) (cellsOf .u8 (mk 256 subN)))
  have Z := Lib.hid ((hz.alloc (.cells (cellsOf .u8 (mk 256 zeroK)) 84)).otherRow (C := w1.heap.size) (by omega) (cellsOf .u8 (mk 256 subN)))
  have N0 := Lib.hid (IntBlk.new w1 .u8 84 (mk 256 zeroK))
  have T := Lib.hid (N0.out.setRow .u8 (mk 256 subN))
  have L := Lib.hid (below_setRow (hw.alloc (by omega) (.cells (cellsOf .u8 (mk 256 zeroK)) 84)) (g := w1.heap.size) (by omega) (cellsOf .u8 (mk 256 subN)))
  clear ha hz hw
  go_wp2_with (first
    | (refine store_row_on rfl 84 _ _ rfl rfl w1.heap.size (cellsOf .u8 (mk 256 subN)) rfl rfl 84 (cellsOf .u8 (mk 256 zeroK)) N0.out (tabSize _) (by rw [cellsOf_size, cellsOf_size, mk_len, mk_len]) (cellsOf_one _ _) ?_)
    | fail)
  clear N0
  go_loopw [6] (fun v6 wr => ∃ i : Nat, i ≤ n ∧ v6 = .int .i64 i ∧ IntBlk wr w.heap.size .u8 65 (mk 16 (encTo R n f i)) ∧ IntBlk wr (w.heap.size + 1) .u8 65 (mk 16 zeroK) ∧ IntBlk wr w1.heap.size .u8 84 (mk 256 subN) ∧ Below w.heap.size w wr) (fun v6 _ => n - (intOf v6).toNat)
  case atStart => exact ⟨0, by omega, rfl, by rw [encTo_zero]; exact A.out, Z.out, T.out, L.out⟩
  case round =>
    obtain ⟨i, ile, rfl, ha, hz, ht, hw⟩ := hrel
    clear A Z T L
    have A := Lib.hid ha
    have Z := Lib.hid hz
    have T := Lib.hid ht
    have L := Lib.hid hw
    by_cases hlti : i < n
    · have ti : decide ((i : Int) < n) = true := by simp; omega
      rcases hp with hp | ⟨B, o, rfl, hB, hc⟩
      · omega
      have hk := encTo_key hR hf i (by omega)
      have HS := Lib.hid (encTo_step R n f i)
      clear ha hz ht hw
      generalize encTo R n f i = s at *
      have k1 := subK_key hk
      have k2 := shK_key k1
      have k3 := mixCol_key k2
      by_cases h0 : i = 0
      · have d1 : decide (0 < i) = false := by simp; omega
        have d3 : decide ((0 : Int) < (i : Int)) = false := by simp; omega
        have H0 := Lib.hid h0; clear h0
        go_wp2
        go_loopw [11] (fun v11 wr => ∃ j : Nat, j ≤ 16 ∧ v11 = .int .i64 j ∧ IntBlk wr w.heap.size .u8 65 (mk 16 (upTo (xorK (s) (R i)) (s) j)) ∧ IntBlk wr (w.heap.size + 1) .u8 65 (mk 16 zeroK) ∧ IntBlk wr w1.heap.size .u8 84 (mk 256 subN) ∧ Below w.heap.size w wr) (fun v11 _ => 16 - (intOf v11).toNat)
        case atStart => exact ⟨0, by omega, rfl, by rw [upTo_start]; exact A.out, Z.out, T.out, L.out⟩
        case round =>
          obtain ⟨j, jle, rfl, ha, hz, ht, hw⟩ := hrel
          clear A Z T L
          have A := Lib.hid ha
          have Z := Lib.hid hz
          have T := Lib.hid ht
          have L := Lib.hid hw
          by_cases hltj : j < 16
          · have tj : decide ((j : Int) < 16) = true := by simp; omega
            have c1 := ha.cell (i := j) (by rw [mk_len]; exact hltj)
            rw [mk_get hltj, upTo_at] at c1
            have f1 := ha.free j
            have c2 := ((hc i hlti).below hw hB) j hltj
            have hx := hk j hltj
            have hy := hR i hlti j hltj
            have HV := Lib.hid (xorK_bits (f := s) (g := R i) hx hy)
            clear ha hz ht hw
            have e0 : (i : Int) < n := by omega
            have e1 : (j : Int) < 16 := by omega
            have e2 : (0 : Int) ≤ j := by omega
            have e3 : (0 : Int) ≤ i := by omega
            go_wp2
            refine wp_region_still_tail 12 (by kernel_rfl) (by kernel_rfl) ?_
            simp only [List.take_succ_cons, List.take_zero, List.drop_succ_cons, List.drop_zero]
            change wpStill _ _ wr.drew (fun a' => wpList _ _ _ _ a' wr.drew) _ _
            iterate 12 still_step
            refine wpStill_nil ?_
            go_wp2
            go_roundw
            case rel => exact ⟨j + 1, by omega, by go_num, by rw [HV.out, ← upTo_step]; exact (A.out.set j _).drew, (Z.out.other (by show w.heap.size ≠ w.heap.size + 1; omega) _).drew, (T.out.other (by show w.heap.size ≠ w1.heap.size; omega) _).drew, (L.out.setCell (by show w.heap.size ≤ w.heap.size; omega) _).drew⟩
            case measure => simp [intOf]; omega
          · obtain rfl : j = 16 := by omega
            clear ha hz ht hw
            go_wp2
            go_roundw
            case rel => exact ⟨i + 1, by omega, by go_num, by rw [HS.out, inE_zero s H0.out, ← upTo_end 16]; exact A.out, Z.out, T.out, L.out⟩
            case measure => simp [intOf]; omega
      · have d1 : decide ((0 : Int) < (i : Int)) = true := by simp; omega
        go_wp2
        go_loopw [7] (fun v7 wr => ∃ b : Nat, b ≤ 16 ∧ v7 = .int .i64 b ∧ IntBlk wr w.heap.size .u8 65 (mk 16 (upTo (subK (s)) (s) b)) ∧ IntBlk wr (w.heap.size + 1) .u8 65 (mk 16 zeroK) ∧ IntBlk wr w1.heap.size .u8 84 (mk 256 subN) ∧ Below w.heap.size w wr) (fun v7 _ => 16 - (intOf v7).toNat)
        case atStart => exact ⟨0, by omega, rfl, by rw [upTo_start]; exact A.out, Z.out, T.out, L.out⟩
        case round =>
          obtain ⟨b, ble, rfl, ha, hz, ht, hw⟩ := hrel
          clear A Z T L
          have A := Lib.hid ha
          have Z := Lib.hid hz
          have T := Lib.hid ht
          have L := Lib.hid hw
          by_cases hltb : b < 16
          · have tb : decide ((b : Int) < 16) = true := by simp; omega
            have c1 := ha.cell (i := b) (by rw [mk_len]; exact hltb)
            rw [mk_get hltb, upTo_at] at c1
            have f1 := ha.free b
            have hx := hk b hltb
            have c2 := ht.cell (i := (s) b) (by rw [mk_len]; exact hx)
            rw [mk_get hx] at c2
            have e1 : (((s) b : Nat) : Int) < 256 := by omega
            have e2 : (0 : Int) ≤ (((s) b : Nat) : Int) := by omega
            clear ha hz ht hw
            go_wp2
            go_roundw
            case rel => exact ⟨b + 1, by omega, by go_num, by rw [← upTo_step, subK_at]; exact A.out.set b _, Z.out.other (by show w.heap.size ≠ w.heap.size + 1; omega) _, T.out.other (by show w.heap.size ≠ w1.heap.size; omega) _, L.out.setCell (by show w.heap.size ≤ w.heap.size; omega) _⟩
            case measure => simp [intOf]; omega
          · obtain rfl : b = 16 := by omega
            clear ha hz ht hw
            go_wp2_with (first
              | (refine wpList_load_row rfl 65 _ rfl (w.heap.size) rfl 65 (cellsOf .u8 (mk 16 (subK (s)))) (0, 0) _ (by rw [← upTo_end 16]; exact A.out) keyUnder rfl (keySize _) ?_)
              | fail)
            refine (refShift_any (subK (s)) _).mono ?_
            rintro e w2 ⟨rfl, hb⟩
            have ha := A.out.below hb A.out.lt
            have hz := Z.out.below hb Z.out.lt
            have ht := T.out.below hb T.out.lt
            have hw := L.out.trans (hb.mono L.out.size)
            clear hb A Z T L
            have B1 := Lib.hid ha
            have A := Lib.hid (ha.setRow .u8 (mk 16 (shK (subK (s)))))
            have Z := Lib.hid (hz.otherRow (C := w.heap.size) (by omega) (cellsOf .u8 (mk 16 (shK (subK (s))))))
            have T := Lib.hid (ht.otherRow (C := w.heap.size) (by omega) (cellsOf .u8 (mk 16 (shK (subK (s))))))
            have L := Lib.hid (below_setRow hw (g := w.heap.size) (by omega) (cellsOf .u8 (mk 16 (shK (subK (s))))))
            clear ha hz ht hw
            by_cases h1 : i + 1 < n
            · have d2 : decide ((i : Int) < (n : Int) - 1) = true := by simp; omega
              go_wp2_with (first
                | (refine store_row_on rfl 65 _ _ rfl rfl (w.heap.size) (cellsOf .u8 (mk 16 (shK (subK (s))))) rfl rfl 65 (cellsOf .u8 (mk 16 (upTo (subK (s)) (s) 16))) B1.out (keySize _) (by rw [cellsOf_size, cellsOf_size, mk_len, mk_len]) (cellsOf_one _ _) ?_)
                | fail)
              clear B1
              go_loopw [8] (fun v8 wr => ∃ c : Nat, c ≤ 4 ∧ v8 = .int .i64 c ∧ IntBlk wr w.heap.size .u8 65 (mk 16 (upTo (colK mixK (shK (subK s))) (shK (subK s)) (4 * c))) ∧ IntBlk wr (w.heap.size + 1) .u8 65 (mk 16 zeroK) ∧ IntBlk wr w1.heap.size .u8 84 (mk 256 subN) ∧ Below w.heap.size w wr) (fun v8 _ => 4 - (intOf v8).toNat)
              case atStart => exact ⟨0, by omega, rfl, by rw [upTo_start]; exact A.out, Z.out, T.out, L.out⟩
              case round =>
                obtain ⟨c, cle, rfl, ha, hz, ht, hw⟩ := hrel
                clear A Z T L
                have A := Lib.hid ha
                have Z := Lib.hid hz
                have T := Lib.hid ht
                have L := Lib.hid hw
                by_cases hltc : c < 4
                · have tc : decide ((c : Int) < 4) = true := by simp; omega
                  have hs2 : w1.heap.size < wr.heap.size := ht.lt
                  obtain ⟨q, hq⟩ : ∃ q, q = 4 * c := ⟨_, rfl⟩
                  obtain ⟨q1, g1⟩ : ∃ x, x = q + 1 := ⟨_, rfl⟩
                  obtain ⟨q2, g2⟩ : ∃ x, x = q + 2 := ⟨_, rfl⟩
                  obtain ⟨q3, g3⟩ : ∃ x, x = q + 3 := ⟨_, rfl⟩
                  have hm : IntKind.i64.wrap (4 * (c : Int)) = (q : Int) := by rw [IntWalk.i64_in _ (by omega)]; omega
                  have hq1 : IntKind.i64.wrap ((q : Int) + 1) = (q1 : Int) := by rw [IntWalk.i64_in _ (by omega)]; omega
                  have hq2 : IntKind.i64.wrap ((q : Int) + 2) = (q2 : Int) := by rw [IntWalk.i64_in _ (by omega)]; omega
                  have hq3 : IntKind.i64.wrap ((q : Int) + 3) = (q3 : Int) := by rw [IntWalk.i64_in _ (by omega)]; omega
                  have hcol := colAt_word k2 hltc
                  have CC : ∀ k j, j < 4 → k = 4 * c + j → ∀ w', Below wr.heap.size wr w' → w'.cell? ⟨w.heap.size, k, none⟩ = some (.int .u8 (colAt (shK (subK s)) c j)) := fun k j hj hk w' h => by
                    have := (ha.below h ha.lt).cell (i := k) (by rw [mk_len]; omega)
                    rw [mk_get (by omega)] at this
                    rw [this, hk]
                    unfold upTo colAt
                    rw [if_neg (by omega)]
                  have HC0 := Lib.hid (CC q 0 (by omega) (by omega))
                  have HC1 := Lib.hid (CC q1 1 (by omega) (by omega))
                  have HC2 := Lib.hid (CC q2 2 (by omega) (by omega))
                  have HC3 := Lib.hid (CC q3 3 (by omega) (by omega))
                  have AC := Lib.hid (fun (w' : World) (h : Below wr.heap.size wr w') => ha.below h ha.lt)
                  have ZC := Lib.hid (fun (w' : World) (h : Below wr.heap.size wr w') => hz.below h hz.lt)
                  have TC := Lib.hid (fun (w' : World) (h : Below wr.heap.size wr w') => ht.below h ht.lt)
                  have LC := Lib.hid (fun (w' : World) (h : Below wr.heap.size wr w') => hw.trans (h.mono hw.size))
                  have b0 : q < 16 := by omega
                  have b1 : q1 < 16 := by omega
                  have b2 : q2 < 16 := by omega
                  have b3 : q3 < 16 := by omega
                  clear CC ha hz ht hw A Z T L hq g1 g2 g3
                  go_wp2
                  generalize wr = W0 at *
                  refine wp_region_tree (.float 0 (.float 1 (.float 2 (.float 3 (.float 4 (.float 5 (.float 6 (.float 7 (.float 8 (.float 9 (.float 10 (.float 11 (.float 12 (.float 13 (.float 14 (.float 15 (.float 16 (.float 17 (.float 18 (.float 19 (.two 20 (.one 21 (.one 22 .over)) 21 (.one 20 (.one 22 .over))))))))))))))))))))))) (fun w' => Below W0.heap.size W0 w') (by kernel_rfl) (by kernel_rfl) ((Below.refl _ _).drew) ?_
                  iterate 20 (
                    refine tree_float rfl rfl (fun K hK => ?_)
                    first
                      | (refine gives_move _ rfl ?_)
                      | (refine gives_int_mul _ _ rfl 4 (c : Int) (q : Int) rfl rfl hm ?_)
                      | (refine gives_int_add _ _ rfl (q : Int) 1 (q1 : Int) rfl rfl hq1 ?_)
                      | (refine gives_int_add _ _ rfl (q : Int) 2 (q2 : Int) rfl rfl hq2 ?_)
                      | (refine gives_int_add _ _ rfl (q : Int) 3 (q3 : Int) rfl rfl hq3 ?_)
                      | (refine gives_place 65 16 _ _ rfl keyUnder w.heap.size q rfl rfl (by omega) ?_)
                      | (refine gives_place 65 16 _ _ rfl keyUnder w.heap.size q1 rfl rfl (by omega) ?_)
                      | (refine gives_place 65 16 _ _ rfl keyUnder w.heap.size q2 rfl rfl (by omega) ?_)
                      | (refine gives_place 65 16 _ _ rfl keyUnder w.heap.size q3 rfl rfl (by omega) ?_)
                      | (refine gives_byte_load _ rfl w.heap.size q _ rfl (HC0.out) ?_)
                      | (refine gives_byte_load _ rfl w.heap.size q1 _ rfl (HC1.out) ?_)
                      | (refine gives_byte_load _ rfl w.heap.size q2 _ rfl (HC2.out) ?_)
                      | (refine gives_byte_load _ rfl w.heap.size q3 _ rfl (HC3.out) ?_)
                      | (refine gives_built 87 _ rfl _ rfl 4 (colAt (shK (subK s)) c) (by kernel_rfl) ?_)
                    go_simp
                    refine hK _ ?_
                    clear hK K)
                  refine tree_two ?_ ?_
                  case' refine_1 =>
                    refine tree_one rfl rfl (fun K hK => ?_)
                    refine done_call1 _ _ _ rfl 42 rfl _ rfl call_refmix3 _ (refMix_any (colAt (shK (subK s)) c) hcol _) ?_
                    intro v1 hb
                    have c0 : Below W0.heap.size W0 W0.drew := (Below.refl _ _).drew
                    have c1 : Below W0.heap.size W0 v1 := c0.trans (hb.mono c0.size)
                    clear c0
                    refine ⟨c1, ?_⟩
                    go_simp
                    refine hK _ _ ?_
                    clear hK K hb
                    refine tree_one rfl rfl (fun K hK => ?_)
                    refine done_alloc 87 rfl _ (wordZero_run _) ?_
                    have c2 : Below W0.heap.size W0 (v1.alloc (.cells (cellsOf .u8 (mk 4 zeroK)) 87)) := c1.alloc c1.size _
                    refine ⟨c2, ?_⟩
                    have D0 := IntBlk.new v1 .u8 87 (mk 4 zeroK)
                    have hD : W0.heap.size ≤ v1.heap.size := c1.size
                    clear c1
                    generalize v1.alloc (.cells (cellsOf .u8 (mk 4 zeroK)) 87) = v2 at *
                    generalize v1.heap.size = D at *
                  case' refine_2 =>
                    refine tree_one rfl rfl (fun K hK => ?_)
                    refine done_alloc 87 rfl _ (wordZero_run _) ?_
                    have c1 : Below W0.heap.size W0 (W0.drew.alloc (.cells (cellsOf .u8 (mk 4 zeroK)) 87)) := ((Below.refl _ _).drew).alloc (Nat.le_refl _) _
                    refine ⟨c1, ?_⟩
                    have D1 : IntBlk (W0.drew.alloc (.cells (cellsOf .u8 (mk 4 zeroK)) 87)) W0.heap.size .u8 87 (mk 4 zeroK) := IntBlk.new W0.drew .u8 87 (mk 4 zeroK)
                    generalize W0.drew.alloc (.cells (cellsOf .u8 (mk 4 zeroK)) 87) = v1 at *
                    go_simp
                    refine hK _ _ ?_
                    clear hK K
                    refine tree_one rfl rfl (fun K hK => ?_)
                    refine done_call1 _ _ _ rfl 42 rfl _ rfl call_refmix3 _ (refMix_any (colAt (shK (subK s)) c) hcol _) ?_
                    intro v2 hb
                    have c2 := c1.trans (hb.mono c1.size)
                    refine ⟨c2, ?_⟩
                    have D0 := D1.below hb D1.lt
                    have hD : W0.heap.size ≤ W0.heap.size := Nat.le_refl _
                    clear D1 c1 hb
                    generalize hDD : (W0.heap.size : Nat) = D at D0 hD ⊢
                  all_goals
                    go_simp
                    refine hK _ _ ?_
                    clear hK K
                    refine tree_one rfl rfl (fun K hK => ?_)
                    refine done_store 87 _ _ rfl D (cellsOf .u8 (mk 4 (mixK (colAt (shK (subK s)) c)))) rfl rfl 87 (cellsOf .u8 (mk 4 zeroK)) D0 (wordSize _) (by rw [cellsOf_size, cellsOf_size, mk_len, mk_len]) (cellsOf_one _ _) ?_
                    have c3 : Below W0.heap.size W0 (v2.setRow D (cellsOf .u8 (mk 4 (mixK (colAt (shK (subK s)) c))))) := below_setRow c2 (by omega) _
                    have D3 := D0.setRow .u8 (mk 4 (mixK (colAt (shK (subK s)) c)))
                    refine ⟨c3, ?_⟩
                    clear c2 D0
                    generalize v2.setRow D (cellsOf .u8 (mk 4 (mixK (colAt (shK (subK s)) c)))) = v3 at *
                    go_simp
                    refine hK _ _ ?_
                    clear hK K
                    refine tree_over ?_
                    have A := Lib.hid (AC.out _ c3)
                    have Z := Lib.hid (ZC.out _ c3)
                    have T := Lib.hid (TC.out _ c3)
                    have L := Lib.hid (LC.out _ c3)
                    have E := Lib.hid D3
                    have hDw : w1.heap.size < D := by omega
                    clear c3 D3 hm hq1 hq2 hq3 b0 b1 b2 b3 HC0 HC1 HC2 HC3 AC ZC TC LC
                    go_wp2
                    go_loopw [10] (fun v10 wr => ∃ m : Nat, m ≤ 4 ∧ v10 = .int .i64 m ∧ IntBlk wr w.heap.size .u8 65 (mk 16 (upTo (colK mixK (shK (subK s))) (shK (subK s)) (4 * c + m))) ∧ IntBlk wr (w.heap.size + 1) .u8 65 (mk 16 zeroK) ∧ IntBlk wr w1.heap.size .u8 84 (mk 256 subN) ∧ Below w.heap.size w wr ∧ IntBlk wr D .u8 87 (mk 4 (mixK (colAt (shK (subK s)) c)))) (fun v10 _ => 4 - (intOf v10).toNat)
                    case atStart => exact ⟨0, by omega, rfl, A.out, Z.out, T.out, L.out, E.out⟩
                    case round =>
                      obtain ⟨m, mle, rfl, ha, hz, ht, hw, hE⟩ := hrel
                      clear A Z T L
                      have A := Lib.hid ha
                      have Z := Lib.hid hz
                      have T := Lib.hid ht
                      have L := Lib.hid hw
                      clear E
                      have E := Lib.hid hE
                      by_cases hltm : m < 4
                      · have tm : decide ((m : Int) < 4) = true := by simp; omega
                        have hp : 4 * c + m < 16 := by omega
                        have c1 := hE.cell (i := m) (by rw [mk_len]; exact hltm)
                        rw [mk_get hltm] at c1
                        have c3 := ha.cell (i := 4 * c + m) (by rw [mk_len]; exact hp)
                        have f3 := ha.free (4 * c + m)
                        have HV := Lib.hid (col_place mixK (shK (subK s)) (c := c) hltm)
                        clear ha hz ht hw hE
                        have g1 : IntKind.i64.wrap (4 * (c : Int)) = 4 * (c : Int) := IntWalk.i64_in _ (by omega)
                        have g2 : IntKind.i64.wrap (4 * (c : Int) + m) = 4 * (c : Int) + m := IntWalk.i64_in _ (by omega)
                        have g3 : (0 : Int) ≤ 4 * (c : Int) + m := by omega
                        have g4 : 4 * (c : Int) + m < 16 := by omega
                        have g5 : (4 * (c : Int) + m).toNat = 4 * c + m := by omega
                        go_wp2
                        go_roundw
                        case rel => exact ⟨m + 1, by omega, by go_num, by rw [show 4 * c + (m + 1) = 4 * c + m + 1 from rfl, ← upTo_step, HV.out]; exact A.out.set (4 * c + m) _, Z.out.other (by show w.heap.size ≠ w.heap.size + 1; omega) _, T.out.other (by show w.heap.size ≠ w1.heap.size; omega) _, L.out.setCell (by show w.heap.size ≤ w.heap.size; omega) _, E.out.other (by show w.heap.size ≠ D; omega) _⟩
                        case measure => simp [intOf]; omega
                      · obtain rfl : m = 4 := by omega
                        clear ha hz ht hw
                        clear hE
                        go_wp2
                        go_roundw
                        case rel => exact ⟨c + 1, by omega, by go_num, by rw [show 4 * (c + 1) = 4 * c + 4 by omega]; exact A.out, Z.out, T.out, L.out⟩
                        case measure => simp [intOf]; omega
                · have HX := Lib.hid (show c = 4 by omega)
                  have t2 : decide ((c : Int) < 4) = false := by simp; omega
                  clear ha hz ht hw
                  go_wp2
                  have A2 := Lib.hid (show IntBlk wr w.heap.size .u8 65 (mk 16 (colK mixK (shK (subK s)))) by rw [← upTo_end 16]; have h := A.out; rwa [HX.out] at h)
                  clear A HX
                  have A := A2
                  clear A2
                  go_loopw [11] (fun v11 wr => ∃ j : Nat, j ≤ 16 ∧ v11 = .int .i64 j ∧ IntBlk wr w.heap.size .u8 65 (mk 16 (upTo (xorK (colK mixK (shK (subK s))) (R i)) (colK mixK (shK (subK s))) j)) ∧ IntBlk wr (w.heap.size + 1) .u8 65 (mk 16 zeroK) ∧ IntBlk wr w1.heap.size .u8 84 (mk 256 subN) ∧ Below w.heap.size w wr) (fun v11 _ => 16 - (intOf v11).toNat)
                  case atStart => exact ⟨0, by omega, rfl, by rw [upTo_start]; exact A.out, Z.out, T.out, L.out⟩
                  case round =>
                    obtain ⟨j, jle, rfl, ha, hz, ht, hw⟩ := hrel
                    clear A Z T L
                    have A := Lib.hid ha
                    have Z := Lib.hid hz
                    have T := Lib.hid ht
                    have L := Lib.hid hw
                    by_cases hltj : j < 16
                    · have tj : decide ((j : Int) < 16) = true := by simp; omega
                      have c1 := ha.cell (i := j) (by rw [mk_len]; exact hltj)
                      rw [mk_get hltj, upTo_at] at c1
                      have f1 := ha.free j
                      have c2 := ((hc i hlti).below hw hB) j hltj
                      have hx := k3 j hltj
                      have hy := hR i hlti j hltj
                      have HV := Lib.hid (xorK_bits (f := colK mixK (shK (subK s))) (g := R i) hx hy)
                      clear ha hz ht hw
                      have e0 : (i : Int) < n := by omega
                      have e1 : (j : Int) < 16 := by omega
                      have e2 : (0 : Int) ≤ j := by omega
                      have e3 : (0 : Int) ≤ i := by omega
                      go_wp2
                      refine wp_region_still_tail 12 (by kernel_rfl) (by kernel_rfl) ?_
                      simp only [List.take_succ_cons, List.take_zero, List.drop_succ_cons, List.drop_zero]
                      change wpStill _ _ wr.drew (fun a' => wpList _ _ _ _ a' wr.drew) _ _
                      iterate 12 still_step
                      refine wpStill_nil ?_
                      go_wp2
                      go_roundw
                      case rel => exact ⟨j + 1, by omega, by go_num, by rw [HV.out, ← upTo_step]; exact (A.out.set j _).drew, (Z.out.other (by show w.heap.size ≠ w.heap.size + 1; omega) _).drew, (T.out.other (by show w.heap.size ≠ w1.heap.size; omega) _).drew, (L.out.setCell (by show w.heap.size ≤ w.heap.size; omega) _).drew⟩
                      case measure => simp [intOf]; omega
                    · obtain rfl : j = 16 := by omega
                      clear ha hz ht hw
                      go_wp2
                      go_roundw
                      case rel => exact ⟨i + 1, by omega, by go_num, by rw [HS.out, inE_mid s h0 h1, ← upTo_end 16]; exact A.out, Z.out, T.out, L.out⟩
                      case measure => simp [intOf]; omega
            · have d2 : decide ((i : Int) < (n : Int) - 1) = false := by simp; omega
              go_wp2_with (first
                | (refine store_row_on rfl 65 _ _ rfl rfl (w.heap.size) (cellsOf .u8 (mk 16 (shK (subK (s))))) rfl rfl 65 (cellsOf .u8 (mk 16 (upTo (subK (s)) (s) 16))) B1.out (keySize _) (by rw [cellsOf_size, cellsOf_size, mk_len, mk_len]) (cellsOf_one _ _) ?_)
                | fail)
              clear B1
              go_loopw [11] (fun v11 wr => ∃ j : Nat, j ≤ 16 ∧ v11 = .int .i64 j ∧ IntBlk wr w.heap.size .u8 65 (mk 16 (upTo (xorK (shK (subK s)) (R i)) (shK (subK s)) j)) ∧ IntBlk wr (w.heap.size + 1) .u8 65 (mk 16 zeroK) ∧ IntBlk wr w1.heap.size .u8 84 (mk 256 subN) ∧ Below w.heap.size w wr) (fun v11 _ => 16 - (intOf v11).toNat)
              case atStart => exact ⟨0, by omega, rfl, by rw [upTo_start]; exact A.out, Z.out, T.out, L.out⟩
              case round =>
                obtain ⟨j, jle, rfl, ha, hz, ht, hw⟩ := hrel
                clear A Z T L
                have A := Lib.hid ha
                have Z := Lib.hid hz
                have T := Lib.hid ht
                have L := Lib.hid hw
                by_cases hltj : j < 16
                · have tj : decide ((j : Int) < 16) = true := by simp; omega
                  have c1 := ha.cell (i := j) (by rw [mk_len]; exact hltj)
                  rw [mk_get hltj, upTo_at] at c1
                  have f1 := ha.free j
                  have c2 := ((hc i hlti).below hw hB) j hltj
                  have hx := k2 j hltj
                  have hy := hR i hlti j hltj
                  have HV := Lib.hid (xorK_bits (f := shK (subK s)) (g := R i) hx hy)
                  clear ha hz ht hw
                  have e0 : (i : Int) < n := by omega
                  have e1 : (j : Int) < 16 := by omega
                  have e2 : (0 : Int) ≤ j := by omega
                  have e3 : (0 : Int) ≤ i := by omega
                  go_wp2
                  refine wp_region_still_tail 12 (by kernel_rfl) (by kernel_rfl) ?_
                  simp only [List.take_succ_cons, List.take_zero, List.drop_succ_cons, List.drop_zero]
                  change wpStill _ _ wr.drew (fun a' => wpList _ _ _ _ a' wr.drew) _ _
                  iterate 12 still_step
                  refine wpStill_nil ?_
                  go_wp2
                  go_roundw
                  case rel => exact ⟨j + 1, by omega, by go_num, by rw [HV.out, ← upTo_step]; exact (A.out.set j _).drew, (Z.out.other (by show w.heap.size ≠ w.heap.size + 1; omega) _).drew, (T.out.other (by show w.heap.size ≠ w1.heap.size; omega) _).drew, (L.out.setCell (by show w.heap.size ≤ w.heap.size; omega) _).drew⟩
                  case measure => simp [intOf]; omega
                · obtain rfl : j = 16 := by omega
                  clear ha hz ht hw
                  go_wp2
                  go_roundw
                  case rel => exact ⟨i + 1, by omega, by go_num, by rw [HS.out, inE_last s h0 h1, ← upTo_end 16]; exact A.out, Z.out, T.out, L.out⟩
                  case measure => simp [intOf]; omega
    · obtain rfl : i = n := by omega
      clear ha hz ht hw
      go_wp2_with (first
        | (refine wpList_load_row rfl 65 _ rfl w.heap.size rfl 65 (cellsOf .u8 (mk 16 (encTo R i f i))) (0, 0) _ A.out keyUnder rfl (keySize _) ?_)
        | (refine wpList_store_row rfl 65 _ _ rfl (w.heap.size + 1) _ rfl rfl 65 (cellsOf .u8 (mk 16 zeroK)) Z.out (keySize _) (by rw [cellsOf_size, cellsOf_size, mk_len, mk_len]) (cellsOf_one _ _) ?_))
      refine bodyPost_ret (results_cell_row rfl _ _ (w.heap.size + 1) 65 (cellsOf .u8 (mk 16 (encTo R i f i))) (0, 0) _ rfl (Z.out.setRow .u8 (mk 16 (encTo R i f i))) keyUnder rfl (keySize _)) rfl ⟨rfl, below_setRow L.out (by omega) _⟩
end Go.Proofs.Ytghdeedglekphaa

/- Slices of one key and of two, just made: where they lie, and in a walk. No condition. -/
namespace Go.Proofs.Ytghdeedglekphaa
open Go.ChangeShapes Go.WideShapes Go.ChangeAt Go.RowKit

def oneR (f : Nat → Nat) : Nat → Nat → Nat := fun _ => f
def twoR (f g : Nat → Nat) : Nat → Nat → Nat := fun i => if i = 0 then f else g
theorem keysAt_one {w : World} {B : Nat} {t : TypeId} {f : Nat → Nat} (h : IntBlk w B .u8 t (mk 16 f)) : KeysAt w (some ⟨B, 0, none⟩) 1 (oneR f) := .inr ⟨B, 0, rfl, h.lt, fun i hi => by
  obtain rfl : i = 0 := by omega
  have := h.cells (o := 0) (n := 16) (by omega)
  simpa [oneR] using this⟩
theorem keysAt_two {w : World} {B : Nat} {t : TypeId} {f g : Nat → Nat} (h : IntBlk w B .u8 t (mk 32 (twoK f g))) : KeysAt w (some ⟨B, 0, none⟩) 2 (twoR f g) := .inr ⟨B, 0, rfl, h.lt, fun i hi j hj => by
  rcases (show i = 0 ∨ i = 1 by omega) with rfl | rfl
  · have := h.cells (o := 0) (n := 16) (by omega) j hj
    simp only [Nat.zero_add, Nat.zero_mul] at this ⊢
    rw [this]; simp [twoR, twoK, hj]
  · have := h.cells (o := 16) (n := 16) (by omega) j hj
    simp only [Nat.zero_add, Nat.one_mul] at this ⊢
    have e : twoK f g (16 + j) = g j := by unfold twoK; rw [if_neg (by omega), Nat.add_sub_cancel_left]
    rw [this, e]; rfl⟩
theorem oneR_key {f : Nat → Nat} (h : IsKey f) : ∀ i, i < 1 → IsKey (oneR f i) := fun _ _ => h
theorem twoR_key {f g : Nat → Nat} (hf : IsKey f) (hg : IsKey g) : ∀ i, i < 2 → IsKey (twoR f g i) := fun i _ => by unfold twoR; split; exact hf; exact hg
theorem wpList_keys1 {ops : Array Oper} {rest : List Oper} {o : Oper} {a : Act} {w : World} {Q : Exit → Act → World → Prop} (hgd : o.guard = none) (x : Operand) (ho : o.op = .buildSlice 61 1 #[(0, x)]) (f : Nat → Nat) (hx : a.eval x = .agg (cellsOf .u8 (mk 16 f)))
    (h : wpList Try.prog ops Q rest (a.put o.dst (.slice (some ⟨w.heap.size, 0, none⟩) 1 1)) (w.alloc (.cells (cellsOf .u8 (mk 16 f)) 65))) : wpList Try.prog ops Q (o :: rest) a w :=
  wpList_plain hgd fun _ hK => by
    have e := run_keys1 f w
    unfold Oper.wp execOp
    simp only [ho]
    simp [hx, e]
    exact hK _ _ h
theorem wpList_keys2 {ops : Array Oper} {rest : List Oper} {o : Oper} {a : Act} {w : World} {Q : Exit → Act → World → Prop} (hgd : o.guard = none) (x y : Operand) (ho : o.op = .buildSlice 61 2 #[(0, x), (1, y)]) (f g : Nat → Nat) (hx : a.eval x = .agg (cellsOf .u8 (mk 16 f))) (hy : a.eval y = .agg (cellsOf .u8 (mk 16 g)))
    (h : wpList Try.prog ops Q rest (a.put o.dst (.slice (some ⟨w.heap.size, 0, none⟩) 2 2)) (w.alloc (.cells (cellsOf .u8 (mk 32 (twoK f g))) 65))) : wpList Try.prog ops Q (o :: rest) a w :=
  wpList_plain hgd fun _ hK => by
    have e := run_keys2 f g w
    unfold Oper.wp execOp
    simp only [ho]
    simp [hx, hy, e]
    exact hK _ _ h
end Go.Proofs.Ytghdeedglekphaa

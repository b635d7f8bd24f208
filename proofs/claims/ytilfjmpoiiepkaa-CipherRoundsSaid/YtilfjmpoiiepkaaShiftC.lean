/- The contracts of package cipher's Shift and Unshift: each answers the key that the plain functions say, and writes nothing that was there. Condition: the key's bytes are bytes. -/
import Derived.Test.YtilfjmpoiiepkaaKeyS
import Derived.Test.YtilfjmpoiiepkaaXorC
namespace Go.Proofs.Ytilfjmpoiiepkaa
open Go.ChangeShapes Go.WideShapes Go.ChangeAt Go.RowKit

/-- The place from which a byte comes; and back. -/
def fromN (k : Nat) : Nat := (k + 4 * (k % 4)) % 16
def backP (k : Nat) : Nat := (k + 12 * (k % 4)) % 16
theorem fromN_lt (k : Nat) : fromN k < 16 := by unfold fromN; omega
theorem backP_lt (k : Nat) : backP k < 16 := by unfold backP; omega
theorem from_back {k : Nat} (h : k < 16) : fromN (backP k) = k := by
  have t : ∀ a : Fin 16, fromN (backP a.val) = a.val := by decide +kernel
  exact t ⟨k, h⟩
theorem back_from {k : Nat} (h : k < 16) : backP (fromN k) = k := by
  have t : ∀ a : Fin 16, backP (fromN a.val) = a.val := by decide +kernel
  exact t ⟨k, h⟩
def shK (f : Nat → Nat) (j : Nat) : Nat := f (fromN j)
def unK (f : Nat → Nat) (j : Nat) : Nat := f (backP j)
theorem shK_key {f : Nat → Nat} (h : IsKey f) : IsKey (shK f) := fun j _ => h _ (fromN_lt j)
theorem unK_key {f : Nat → Nat} (h : IsKey f) : IsKey (unK f) := fun j _ => h _ (backP_lt j)
def shTo (f : Nat → Nat) (k : Nat) : Nat → Nat := fun j => if j < k then shK f j else 0
theorem shTo_start (f : Nat → Nat) : mk 16 (shTo f 0) = mk 16 zeroK := mk_ext fun j _ => by unfold shTo zeroK; rw [if_neg (by omega)]
theorem shTo_end (f : Nat → Nat) : mk 16 (shTo f 16) = mk 16 (shK f) := mk_ext fun j hj => by unfold shTo; rw [if_pos hj]
theorem shTo_step (f : Nat → Nat) (k : Nat) : (mk 16 (shTo f k)).set k (f (fromN k) : Nat) = mk 16 (shTo f (k + 1)) := by
  refine mk_set_is rfl fun j _ => ?_
  unfold shTo
  by_cases e : j = k
  · subst e; rw [if_pos rfl, if_pos (by omega)]; rfl
  · rw [if_neg e]
    by_cases l : j < k
    · rw [if_pos l, if_pos (by omega)]
    · rw [if_neg l, if_neg (by omega)]
def unTo (f : Nat → Nat) (k : Nat) : Nat → Nat := fun j => if backP j < k then unK f j else 0
theorem unTo_start (f : Nat → Nat) : mk 16 (unTo f 0) = mk 16 zeroK := mk_ext fun j _ => by unfold unTo zeroK; rw [if_neg (by omega)]
theorem unTo_end (f : Nat → Nat) : mk 16 (unTo f 16) = mk 16 (unK f) := mk_ext fun j hj => by unfold unTo; rw [if_pos (backP_lt j)]
theorem unTo_step (f : Nat → Nat) {k : Nat} (hk : k < 16) : (mk 16 (unTo f k)).set (fromN k) (f k : Nat) = mk 16 (unTo f (k + 1)) := by
  refine mk_set_is rfl fun j hj => ?_
  unfold unTo
  by_cases e : j = fromN k
  · subst e; rw [if_pos rfl, back_from hk, if_pos (by omega)]; unfold unK; rw [back_from hk]
  · have ne : backP j ≠ k := fun h => e (by rw [← h, from_back hj])
    rw [if_neg e]
    by_cases l : backP j < k
    · rw [if_pos l, if_pos (by omega)]
    · rw [if_neg l, if_neg (by omega)]

set_option maxHeartbeats 400000 in
theorem from_any (k : Nat) (hk : k < 16) (w : World) :
    Calls Try.prog 29 #[.int .i64 k] w fun e w' => e = .returned (.int .i64 (fromN k : Nat)) ∧ w = w' := by
  have e1 : (k : Int).tmod 4 = (k : Int) % 4 := IntWalk.rem_in _ _ (by omega)
  go_enter Try.func29, Try.ntmps29
  go_wp2
  go_ret
  have e2 : ((fromN k : Nat) : Int) = ((k : Int) + 4 * ((k : Int) % 4)) % 16 := by unfold fromN; omega
  rw [e2]; exact ⟨rfl, rfl⟩
attribute [local irreducible] fromN backP

set_option maxRecDepth 100000 in
set_option maxHeartbeats 1000000 in
theorem Shift_any (f : Nat → Nat) (w : World) :
    Calls Try.prog 11 #[.agg (cellsOf .u8 (mk 16 f))] w fun e w' => e = .returned (.agg (cellsOf .u8 (mk 16 (shK f)))) ∧ Below w.heap.size w w' := by
  go_enter Try.func11, Try.ntmps11
  go_wp2
  go_loopw [5] (fun v5 wr => ∃ k : Nat, k ≤ 16 ∧ v5 = .int .i64 k ∧ IntBlk wr w.heap.size .u8 23 (mk 16 f) ∧ IntBlk wr (w.heap.size + 1) .u8 23 (mk 16 zeroK) ∧ IntBlk wr (w.heap.size + 1 + 1) .u8 23 (mk 16 (shTo f k)) ∧ Below w.heap.size w wr) (fun v5 _ => 16 - (intOf v5).toNat)
  case atStart => exact ⟨0, by omega, rfl, blk_first w .u8 _ (mk 16 f) _ _, blk_second w .u8 _ (mk 16 zeroK) _ _, by rw [shTo_start]; exact blk_third w .u8 _ (mk 16 zeroK) _ _, below_three w _ _ _⟩
  case round =>
    obtain ⟨k, hk, rfl, ha, hz, hd, hw⟩ := hrel
    have HA := Lib.hid ha
    have HZ := Lib.hid hz
    have HD := Lib.hid hd
    have HW := Lib.hid hw
    by_cases hlt : k < 16
    · have hx := fromN_lt k
      have c1 := ha.cell (i := fromN k) (by rw [mk_len]; exact hx)
      rw [mk_get hx] at c1
      have f1 := ha.free (fromN k)
      have c3 := hd.cell (i := k) (by rw [mk_len]; exact hlt)
      have f3 := hd.free k
      clear ha hz hd hw
      go_wp2_with (go_at_call 29; refine (from_any _ (by omega) _).mono ?_; rintro e w' ⟨rfl, rfl⟩)
      go_roundw
      case rel => exact ⟨k + 1, by omega, by go_num, HA.out.other (by show w.heap.size + 1 + 1 ≠ w.heap.size; omega) _, HZ.out.other (by show w.heap.size + 1 + 1 ≠ w.heap.size + 1; omega) _, by rw [← shTo_step]; exact HD.out.set k _, HW.out.setCell (by show w.heap.size ≤ w.heap.size + 1 + 1; omega) _⟩
      case measure => simp [intOf]; omega
    · obtain rfl : k = 16 := by omega
      clear ha hz hd hw
      go_wp2_with (first
        | (refine wpList_load_row rfl 23 _ rfl (w.heap.size + 1 + 1) rfl 23 (cellsOf .u8 (mk 16 (shK f))) (0, 0) _ (by rw [← shTo_end]; exact HD.out) keyUnder rfl (keySize _) ?_)
        | (refine wpList_store_row rfl 23 _ _ rfl (w.heap.size + 1) _ rfl rfl 23 (cellsOf .u8 (mk 16 zeroK)) HZ.out (keySize _) (by rw [cellsOf_size, cellsOf_size, mk_len, mk_len]) (cellsOf_one _ _) ?_))
      refine bodyPost_ret (results_cell_row rfl _ _ (w.heap.size + 1) 23 (cellsOf .u8 (mk 16 (shK f))) (0, 0) _ rfl (HZ.out.setRow .u8 (mk 16 (shK f))) keyUnder rfl (keySize _)) rfl ⟨rfl, below_setRow HW.out (by omega) _⟩

set_option maxRecDepth 100000 in
set_option maxHeartbeats 1000000 in
theorem Unshift_any (f : Nat → Nat) (hf : IsKey f) (w : World) :
    Calls Try.prog 13 #[.agg (cellsOf .u8 (mk 16 f))] w fun e w' => e = .returned (.agg (cellsOf .u8 (mk 16 (unK f)))) ∧ Below w.heap.size w w' := by
  go_enter Try.func13, Try.ntmps13
  go_wp2_with (refine wpList_load_row rfl 23 _ rfl w.heap.size rfl 23 (cellsOf .u8 (mk 16 f)) (0, 0) _ (((IntBlk.new w .u8 23 (mk 16 f)).alloc _).alloc _) keyUnder rfl (keySize f) ?_)
  go_loopw [7] (fun v7 wr => ∃ k : Nat, k ≤ 16 ∧ v7 = .int .i64 k ∧ IntBlk wr (w.heap.size + 1) .u8 23 (mk 16 zeroK) ∧ IntBlk wr (w.heap.size + 1 + 1) .u8 23 (mk 16 (unTo f k)) ∧ Below w.heap.size w wr) (fun v7 _ => 16 - (intOf v7).toNat)
  case atStart => exact ⟨0, by omega, rfl, blk_second w .u8 _ (mk 16 zeroK) _ _, by rw [unTo_start]; exact blk_third w .u8 _ (mk 16 zeroK) _ _, below_three w _ _ _⟩
  case round =>
    obtain ⟨k, hk, rfl, hz, hd, hw⟩ := hrel
    have HZ := Lib.hid hz
    have HD := Lib.hid hd
    have HW := Lib.hid hw
    by_cases hlt : k < 16
    · have hx := fromN_lt k
      have hb := hf k hlt
      have ki := key_index f hlt
      have c3 := hd.cell (i := fromN k) (by rw [mk_len]; exact hx)
      have f3 := hd.free (fromN k)
      clear hz hd hw
      go_wp2_with (go_at_call 29; refine (from_any _ (by omega) _).mono ?_; rintro e w' ⟨rfl, rfl⟩)
      go_roundw
      case rel => exact ⟨k + 1, by omega, by go_num, HZ.out.other (by show w.heap.size + 1 + 1 ≠ w.heap.size + 1; omega) _, by rw [← unTo_step f hlt]; exact HD.out.set (fromN k) _, HW.out.setCell (by show w.heap.size ≤ w.heap.size + 1 + 1; omega) _⟩
      case measure => simp [intOf]; omega
    · obtain rfl : k = 16 := by omega
      clear hz hd hw
      go_wp2_with (first
        | (refine wpList_load_row rfl 23 _ rfl (w.heap.size + 1 + 1) rfl 23 (cellsOf .u8 (mk 16 (unK f))) (0, 0) _ (by rw [← unTo_end]; exact HD.out) keyUnder rfl (keySize _) ?_)
        | (refine wpList_store_row rfl 23 _ _ rfl (w.heap.size + 1) _ rfl rfl 23 (cellsOf .u8 (mk 16 zeroK)) HZ.out (keySize _) (by rw [cellsOf_size, cellsOf_size, mk_len, mk_len]) (cellsOf_one _ _) ?_))
      refine bodyPost_ret (results_cell_row rfl _ _ (w.heap.size + 1) 23 (cellsOf .u8 (mk 16 (unK f))) (0, 0) _ rfl (HZ.out.setRow .u8 (mk 16 (unK f))) keyUnder rfl (keySize _)) rfl ⟨rfl, below_setRow HW.out (by omega) _⟩
end Go.Proofs.Ytilfjmpoiiepkaa

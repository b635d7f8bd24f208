/- The contracts of package sbox's functions of words and blocks: each answers the array that the plain functions say, and writes nothing that was there. Condition: the arrays' bytes are bytes. -/
import Derived.Test.YtilfjmpoiiepkaaWordS
import Derived.Test.YtilfjmpoiiepkaaSubC
namespace Go.Proofs.Ytilfjmpoiiepkaa
open Go.ChangeShapes Go.WideShapes Go.ChangeAt Go.RowKit

/-- The first k bytes are replaced. -/
def mapTo (g : Nat → Nat) (f : Nat → Nat) (k : Nat) : Nat → Nat := fun i => if i < k then g (f i) else f i
theorem mapTo_zero (g f : Nat → Nat) : mapTo g f 0 = f := by funext i; simp [mapTo]
theorem mapTo_end (n : Nat) (g f : Nat → Nat) : mk n (mapTo g f n) = mk n (fun i => g (f i)) := mk_ext fun i hi => by simp [mapTo, hi]
theorem mapTo_step (n : Nat) (g f : Nat → Nat) {k : Nat} {v : Int} (hv : v = (g (f k) : Nat)) : (mk n (mapTo g f k)).set k v = mk n (mapTo g f (k + 1)) :=
  mk_set_is hv fun j _ => by
    unfold mapTo
    by_cases h : j = k
    · subst h; simp
    · rw [if_neg h]; by_cases h2 : j < k
      · rw [if_pos h2, if_pos (by omega)]
      · rw [if_neg h2, if_neg (by omega)]
attribute [local irreducible] subN backN subI backI

set_option maxRecDepth 100000 in
set_option maxHeartbeats 1000000 in
theorem SubAll_any (f : Nat → Nat) (hf : ∀ i, i < 16 → f i < 256) (w : World) :
    Calls Try.prog 38 #[.agg (cellsOf .u8 (mk 16 f))] w fun e w' => e = .returned (.agg (cellsOf .u8 (mk 16 (fun i => subN (f i))))) ∧ Below w.heap.size w w' := by
  go_enter Try.func38, Try.ntmps38
  go_wp2_with (refine wpList_load_row rfl 23 _ rfl w.heap.size rfl 23 (cellsOf .u8 (mk 16 f)) (0, 0) _ ((IntBlk.new w .u8 23 (mk 16 f)).alloc _) keyUnder rfl (keySize f) ?_)
  go_loopw [6] (fun v6 wr => ∃ k : Nat, k ≤ 16 ∧ v6 = .int .i64 k ∧ IntBlk wr w.heap.size .u8 23 (mk 16 (mapTo subN f k)) ∧ IntBlk wr (w.heap.size + 1) .u8 23 (mk 16 zeroK) ∧ Below w.heap.size w wr) (fun v6 _ => 16 - (intOf v6).toNat)
  case atStart => exact ⟨0, by omega, rfl, by rw [mapTo_zero]; exact (IntBlk.new w .u8 23 (mk 16 f)).alloc _, blk_two w .u8 23 (mk 16 zeroK) _, below_two w _ _⟩
  case round =>
    obtain ⟨k, hk, rfl, hz, hd, hb⟩ := hrel
    have HZ := Lib.hid hz
    have HD := Lib.hid hd
    have HB := Lib.hid hb
    by_cases hlt : k < 16
    · have hx := hf k hlt
      have HV := Lib.hid (mapTo_step 16 subN f (k := k) (v := subI (f k)) (subI_nat (f k)))
      have ci := hz.cell (i := k) (by rw [mk_len]; exact hlt)
      have cf := hz.free k
      have ki := key_index f hlt
      clear hz hd hb
      go_wp2_with (go_at_call 49; refine (Sub_any _ (by omega) (by omega) _).mono ?_; rintro e w' ⟨rfl, rfl⟩)
      go_roundw
      case rel => exact ⟨k + 1, by omega, by go_num, by rw [← HV.out]; exact HZ.out.set k _, HD.out.other (by simp) _, HB.out.setCell (by simp) _⟩
      case measure => simp [intOf]; omega
    · obtain rfl : k = 16 := by omega
      have hd1 : decide (((16 : Nat) : Int) < 16) = false := rfl
      clear hz hd hb
      go_wp2_with (first
        | (refine wpList_load_row rfl 23 _ rfl w.heap.size rfl 23 (cellsOf .u8 (mk 16 (fun i => subN (f i)))) (0, 0) _ (by rw [← mapTo_end]; exact HZ.out) keyUnder rfl (keySize _) ?_)
        | (refine wpList_store_row rfl 23 _ _ rfl (w.heap.size + 1) _ rfl rfl 23 (cellsOf .u8 (mk 16 zeroK)) HD.out (keySize _) (by rw [cellsOf_size, cellsOf_size, mk_len, mk_len]) (cellsOf_one _ _) ?_))
      refine bodyPost_ret (results_cell_row rfl _ _ (w.heap.size + 1) 23 (cellsOf .u8 (mk 16 (fun i => subN (f i)))) (0, 0) _ rfl (HD.out.setRow .u8 (mk 16 (fun i => subN (f i)))) keyUnder rfl (keySize _)) rfl ⟨rfl, below_setRow HB.out (by omega) _⟩

set_option maxRecDepth 100000 in
set_option maxHeartbeats 1000000 in
theorem BackAll_any (f : Nat → Nat) (hf : ∀ i, i < 16 → f i < 256) (w : World) :
    Calls Try.prog 41 #[.agg (cellsOf .u8 (mk 16 f))] w fun e w' => e = .returned (.agg (cellsOf .u8 (mk 16 (fun i => backN (f i))))) ∧ Below w.heap.size w w' := by
  go_enter Try.func41, Try.ntmps41
  go_wp2_with (refine wpList_load_row rfl 23 _ rfl w.heap.size rfl 23 (cellsOf .u8 (mk 16 f)) (0, 0) _ ((IntBlk.new w .u8 23 (mk 16 f)).alloc _) keyUnder rfl (keySize f) ?_)
  go_loopw [6] (fun v6 wr => ∃ k : Nat, k ≤ 16 ∧ v6 = .int .i64 k ∧ IntBlk wr w.heap.size .u8 23 (mk 16 (mapTo backN f k)) ∧ IntBlk wr (w.heap.size + 1) .u8 23 (mk 16 zeroK) ∧ Below w.heap.size w wr) (fun v6 _ => 16 - (intOf v6).toNat)
  case atStart => exact ⟨0, by omega, rfl, by rw [mapTo_zero]; exact (IntBlk.new w .u8 23 (mk 16 f)).alloc _, blk_two w .u8 23 (mk 16 zeroK) _, below_two w _ _⟩
  case round =>
    obtain ⟨k, hk, rfl, hz, hd, hb⟩ := hrel
    have HZ := Lib.hid hz
    have HD := Lib.hid hd
    have HB := Lib.hid hb
    by_cases hlt : k < 16
    · have hx := hf k hlt
      have HV := Lib.hid (mapTo_step 16 backN f (k := k) (v := backI (f k)) (backI_nat (f k)))
      have ci := hz.cell (i := k) (by rw [mk_len]; exact hlt)
      have cf := hz.free k
      have ki := key_index f hlt
      clear hz hd hb
      go_wp2_with (go_at_call 50; refine (Back_any _ (by omega) (by omega) _).mono ?_; rintro e w' ⟨rfl, rfl⟩)
      go_roundw
      case rel => exact ⟨k + 1, by omega, by go_num, by rw [← HV.out]; exact HZ.out.set k _, HD.out.other (by simp) _, HB.out.setCell (by simp) _⟩
      case measure => simp [intOf]; omega
    · obtain rfl : k = 16 := by omega
      have hd1 : decide (((16 : Nat) : Int) < 16) = false := rfl
      clear hz hd hb
      go_wp2_with (first
        | (refine wpList_load_row rfl 23 _ rfl w.heap.size rfl 23 (cellsOf .u8 (mk 16 (fun i => backN (f i)))) (0, 0) _ (by rw [← mapTo_end]; exact HZ.out) keyUnder rfl (keySize _) ?_)
        | (refine wpList_store_row rfl 23 _ _ rfl (w.heap.size + 1) _ rfl rfl 23 (cellsOf .u8 (mk 16 zeroK)) HD.out (keySize _) (by rw [cellsOf_size, cellsOf_size, mk_len, mk_len]) (cellsOf_one _ _) ?_))
      refine bodyPost_ret (results_cell_row rfl _ _ (w.heap.size + 1) 23 (cellsOf .u8 (mk 16 (fun i => backN (f i)))) (0, 0) _ rfl (HD.out.setRow .u8 (mk 16 (fun i => backN (f i)))) keyUnder rfl (keySize _)) rfl ⟨rfl, below_setRow HB.out (by omega) _⟩

set_option maxRecDepth 100000 in
set_option maxHeartbeats 1000000 in
theorem SubWord_any (f : Nat → Nat) (hf : ∀ i, i < 4 → f i < 256) (w : World) :
    Calls Try.prog 53 #[.agg (cellsOf .u8 (mk 4 f))] w fun e w' => e = .returned (.agg (cellsOf .u8 (mk 4 (fun i => subN (f i))))) ∧ Below w.heap.size w w' := by
  go_enter Try.func53, Try.ntmps53
  go_wp2_with (refine wpList_load_row rfl 26 _ rfl w.heap.size rfl 26 (cellsOf .u8 (mk 4 f)) (0, 0) _ ((IntBlk.new w .u8 26 (mk 4 f)).alloc _) wordUnder rfl (wordSize f) ?_)
  go_loopw [6] (fun v6 wr => ∃ k : Nat, k ≤ 4 ∧ v6 = .int .i64 k ∧ IntBlk wr w.heap.size .u8 26 (mk 4 (mapTo subN f k)) ∧ IntBlk wr (w.heap.size + 1) .u8 26 (mk 4 zeroK) ∧ Below w.heap.size w wr) (fun v6 _ => 4 - (intOf v6).toNat)
  case atStart => exact ⟨0, by omega, rfl, by rw [mapTo_zero]; exact (IntBlk.new w .u8 26 (mk 4 f)).alloc _, blk_two w .u8 26 (mk 4 zeroK) _, below_two w _ _⟩
  case round =>
    obtain ⟨k, hk, rfl, hz, hd, hb⟩ := hrel
    have HZ := Lib.hid hz
    have HD := Lib.hid hd
    have HB := Lib.hid hb
    by_cases hlt : k < 4
    · have hx := hf k hlt
      have HV := Lib.hid (mapTo_step 4 subN f (k := k) (v := subI (f k)) (subI_nat (f k)))
      have ci := hz.cell (i := k) (by rw [mk_len]; exact hlt)
      have cf := hz.free k
      have ki := word_index f hlt
      clear hz hd hb
      go_wp2_with (go_at_call 49; refine (Sub_any _ (by omega) (by omega) _).mono ?_; rintro e w' ⟨rfl, rfl⟩)
      go_roundw
      case rel => exact ⟨k + 1, by omega, by go_num, by rw [← HV.out]; exact HZ.out.set k _, HD.out.other (by simp) _, HB.out.setCell (by simp) _⟩
      case measure => simp [intOf]; omega
    · obtain rfl : k = 4 := by omega
      have hd1 : decide (((4 : Nat) : Int) < 4) = false := rfl
      clear hz hd hb
      go_wp2_with (first
        | (refine wpList_load_row rfl 26 _ rfl w.heap.size rfl 26 (cellsOf .u8 (mk 4 (fun i => subN (f i)))) (0, 0) _ (by rw [← mapTo_end]; exact HZ.out) wordUnder rfl (wordSize _) ?_)
        | (refine wpList_store_row rfl 26 _ _ rfl (w.heap.size + 1) _ rfl rfl 26 (cellsOf .u8 (mk 4 zeroK)) HD.out (wordSize _) (by rw [cellsOf_size, cellsOf_size, mk_len, mk_len]) (cellsOf_one _ _) ?_))
      refine bodyPost_ret (results_cell_row rfl _ _ (w.heap.size + 1) 26 (cellsOf .u8 (mk 4 (fun i => subN (f i)))) (0, 0) _ rfl (HD.out.setRow .u8 (mk 4 (fun i => subN (f i)))) wordUnder rfl (wordSize _)) rfl ⟨rfl, below_setRow HB.out (by omega) _⟩

end Go.Proofs.Ytilfjmpoiiepkaa

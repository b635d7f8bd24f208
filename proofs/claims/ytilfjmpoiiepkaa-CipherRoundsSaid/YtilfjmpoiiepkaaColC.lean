/- The contract of package cipher's columns, with Mix and with Unmix: each column of the key is changed by itself, and nothing is written that was there. Condition: the key's bytes are bytes. -/
import Derived.Test.YtilfjmpoiiepkaaMixC
import Derived.Test.YtilfjmpoiiepkaaPart
import Derived.Test.YtilfjmpoiiepkaaQuietC
namespace Go.Proofs.Ytilfjmpoiiepkaa
open Go.ChangeShapes Go.WideShapes Go.ChangeAt Go.RowKit

/-- Column c of a key. -/
def colAt (f : Nat → Nat) (c : Nat) : Nat → Nat := fun i => f (4 * c + i)
def colK (m : (Nat → Nat) → Nat → Nat) (f : Nat → Nat) (j : Nat) : Nat := m (colAt f (j / 4)) (j % 4)
def colTo (m : (Nat → Nat) → Nat → Nat) (f : Nat → Nat) (c : Nat) : Nat → Nat := fun j => if j < 4 * c then colK m f j else f j
theorem colAt_word {f : Nat → Nat} (h : IsKey f) {c : Nat} (hc : c < 4) : IsWord (colAt f c) := fun i hi => h _ (by omega)
theorem colTo_start (m : (Nat → Nat) → Nat → Nat) (f : Nat → Nat) : mk 16 (colTo m f 0) = mk 16 f := mk_ext fun j _ => by unfold colTo; rw [if_neg (by omega)]
theorem colTo_end (m : (Nat → Nat) → Nat → Nat) (f : Nat → Nat) : mk 16 (colTo m f 4) = mk 16 (colK m f) := mk_ext fun j hj => by unfold colTo; rw [if_pos (by omega)]
theorem colTo_at (m : (Nat → Nat) → Nat → Nat) (f : Nat → Nat) (c : Nat) : (fun i => colTo m f c (4 * c + i)) = colAt f c := by
  funext i; unfold colTo; rw [if_neg (by omega)]; rfl
theorem colTo_step (m : (Nat → Nat) → Nat → Nat) (f : Nat → Nat) (c : Nat) : mk 16 (put (colTo m f c) (4 * c) 4 (m (colAt f c))) = mk 16 (colTo m f (c + 1)) := mk_ext fun j hj => by
  unfold put colTo
  by_cases h : 4 * c ≤ j ∧ j < 4 * c + 4
  · rw [if_pos h, if_pos (by omega)]; unfold colK; rw [show j / 4 = c by omega, show j % 4 = j - 4 * c by omega]
  · rw [if_neg h]
    by_cases l : j < 4 * c
    · rw [if_pos l, if_pos (by omega)]
    · rw [if_neg l, if_neg (by omega)]
theorem colTo_steps (m : (Nat → Nat) → Nat → Nat) (f : Nat → Nat) {c n : Nat} (hn : n = 4 * c) : mk 16 (put (colTo m f c) n 4 (m (colAt f c))) = mk 16 (colTo m f (c + 1)) := by subst hn; exact colTo_step m f c
theorem put_all (n : Nat) (F g : Nat → Nat) : mk n (put F 0 n g) = mk n g := mk_ext fun j hj => by unfold put; rw [if_pos (by omega), Nat.sub_zero]
theorem mixCol_key {f : Nat → Nat} (h : IsKey f) : IsKey (colK mixK f) := fun j hj => mixK_word (colAt_word h (by omega)) _ (by omega)
theorem unmCol_key {f : Nat → Nat} (h : IsKey f) : IsKey (colK unmK f) := fun j hj => unmK_word (colAt_word h (by omega)) _ (by omega)
theorem byteInfo : (Try.prog.info? 5).map (·.size) = some 1 := by kernel_rfl
theorem bytesUnder : Try.prog.underlying 29 = some (.slice 5) := Try.underlying29
attribute [local irreducible] mixK unmK

set_option maxRecDepth 100000 in
set_option maxHeartbeats 2000000 in
theorem mixCols_any (f : Nat → Nat) (hf : IsKey f) (w : World) :
    Calls Try.prog 39 #[.agg (cellsOf .u8 (mk 16 f)), .func (.func 14) #[] #[]] w fun e w' => e = .returned (.agg (cellsOf .u8 (mk 16 (colK mixK f)))) ∧ Below w.heap.size w w' := by
  go_enter Try.func39, Try.ntmps39
  go_wp2
  go_loopw [5] (fun v5 wr => ∃ c n : Nat, c ≤ 4 ∧ n = 4 * c ∧ v5 = .int .i64 n ∧ IntBlk wr w.heap.size .u8 23 (mk 16 (colTo mixK f c)) ∧ IntBlk wr (w.heap.size + 1) .u8 23 (mk 16 zeroK) ∧ Below w.heap.size w wr) (fun v5 _ => 16 - (intOf v5).toNat)
  case atStart => exact ⟨0, 0, by omega, rfl, rfl, by rw [colTo_start]; exact (IntBlk.new w .u8 23 (mk 16 f)).alloc _, blk_two w .u8 23 (mk 16 zeroK) _, below_two w _ _⟩
  case round =>
    obtain ⟨c, n, hc, hn, rfl, ha, hz, hw⟩ := hrel
    have hs : w.heap.size + 1 < wr.heap.size := hz.lt
    have HA := Lib.hid ha
    have HZ := Lib.hid hz
    have HW := Lib.hid hw
    have HN := Lib.hid hn
    by_cases hlt : n < 16
    · have hc4 : c < 4 := by omega
      have CA : Cells (wr.alloc (.cells (cellsOf .u8 (mk 4 zeroK)) 26)).drew w.heap.size n 4 (colAt f c) := by
        have := ((ha.alloc (.cells (cellsOf .u8 (mk 4 zeroK)) 26)).drew).cells (o := n) (n := 4) (by omega)
        rw [hn] at this ⊢
        rw [colTo_at] at this; exact this
      have BD := (IntBlk.new wr .u8 26 (mk 4 zeroK)).drew
      have BA := (ha.alloc (.cells (cellsOf .u8 (mk 4 zeroK)) 26)).drew
      have BZ := (hz.alloc (.cells (cellsOf .u8 (mk 4 zeroK)) 26)).drew
      have BW := (hw.alloc (by omega) (.cells (cellsOf .u8 (mk 4 zeroK)) 26)).drew
      have hn12 : 4 ≤ 16 - n := by omega
      have hcol := colAt_word hf hc4
      clear ha hz hw hn
      go_wp2
      have e1 : (n : Int) < 16 := by omega
      have e2 : (0 : Int) ≤ n := by omega
      have e3 : (n : Int) ≤ 16 := by omega
      have e4 : ¬ (16 = n) := by omega
      refine wp_region_still_tail 3 (by kernel_rfl) (by kernel_rfl) ?_
      simp only [List.take_succ_cons, List.take_zero, List.drop_succ_cons, List.drop_zero]
      iterate 3 still_step
      refine wpStill_nil ?_
      change wpList _ _ _ _ _ (wr.alloc (.cells (cellsOf .u8 (mk 4 zeroK)) 26)).drew
      generalize (wr.alloc (.cells (cellsOf .u8 (mk 4 zeroK)) 26)).drew = w1 at *
      refine wpList_copy_part rfl _ _ _ _ rfl 5 bytesUnder byteInfo wr.heap.size 0 4 4 w.heap.size n (16 - n) (16 - n) 4 4 zeroK (colAt f c) rfl rfl 26 BD (by omega) (Nat.min_eq_right hn12).symm CA ?_
      have BD2 := BD.setRow .u8 (mk 4 (put zeroK 0 4 (colAt f c)))
      rw [put_all] at BD2 ⊢
      have BA2 := BA.otherRow (C := wr.heap.size) (by omega) (cellsOf .u8 (mk 4 (colAt f c)))
      have BZ2 := BZ.otherRow (C := wr.heap.size) (by omega) (cellsOf .u8 (mk 4 (colAt f c)))
      have BW2 := below_setRow BW (g := wr.heap.size) (by omega) (cellsOf .u8 (mk 4 (colAt f c)))
      generalize w1.setRow wr.heap.size (cellsOf .u8 (mk 4 (colAt f c))) = w2 at *
      have HD2 := Lib.hid BD2
      clear CA BD BA BZ BW BD2 HA HZ HW
      go_wp2_with (first
        | (refine wpList_load_row rfl 26 _ rfl wr.heap.size rfl 26 (cellsOf .u8 (mk 4 (colAt f c))) (0, 0) _ HD2.out wordUnder rfl (wordSize _) ?_)
        | fail)
      refine (Mix_any (colAt f c) hcol _).mono ?_
      rintro e w3 ⟨rfl, hb3⟩
      have HD3 := Lib.hid (HD2.out.below hb3 HD2.out.lt)
      have HA3 := Lib.hid (BA2.below hb3 BA2.lt)
      have HZ3 := Lib.hid (BZ2.below hb3 BZ2.lt)
      have HW3 := Lib.hid (BW2.trans (hb3.mono BW2.size))
      clear hb3 HD2 BA2 BZ2 BW2
      go_wp2_with (first
        | (refine store_row_on rfl 26 _ _ rfl rfl wr.heap.size (cellsOf .u8 (mk 4 (mixK (colAt f c)))) rfl rfl 26 (cellsOf .u8 (mk 4 (colAt f c))) HD3.out (wordSize _) (by rw [cellsOf_size, cellsOf_size, mk_len, mk_len]) (cellsOf_one _ _) ?_)
        | fail)
      have BD4 := (HD3.out.setRow .u8 (mk 4 (mixK (colAt f c)))).drew
      have BA4 := (HA3.out.otherRow (C := wr.heap.size) (by omega) (cellsOf .u8 (mk 4 (mixK (colAt f c))))).drew
      have BZ4 := (HZ3.out.otherRow (C := wr.heap.size) (by omega) (cellsOf .u8 (mk 4 (mixK (colAt f c))))).drew
      have BW4 := (below_setRow HW3.out (g := wr.heap.size) (by omega) (cellsOf .u8 (mk 4 (mixK (colAt f c))))).drew
      refine wp_region_still_tail 3 (by kernel_rfl) (by kernel_rfl) ?_
      simp only [List.take_succ_cons, List.take_zero, List.drop_succ_cons, List.drop_zero]
      iterate 3 still_step
      refine wpStill_nil ?_
      change wpList _ _ _ _ _ (w3.setRow wr.heap.size (cellsOf .u8 (mk 4 (mixK (colAt f c))))).drew
      generalize (w3.setRow wr.heap.size (cellsOf .u8 (mk 4 (mixK (colAt f c))))).drew = w4 at *
      have CD : Cells w4 wr.heap.size 0 4 (mixK (colAt f c)) := by
        have := BD4.cells (o := 0) (n := 4) (by omega)
        simpa using this
      refine wpList_copy_part rfl _ _ _ _ rfl 5 bytesUnder byteInfo w.heap.size n (16 - n) (16 - n) wr.heap.size 0 4 4 4 16 (colTo mixK f c) (mixK (colAt f c)) rfl rfl 23 BA4 (by omega) (Nat.min_eq_left hn12).symm CD ?_
      have BA5 := BA4.setRow .u8 (mk 16 (put (colTo mixK f c) n 4 (mixK (colAt f c))))
      rw [colTo_steps _ _ HN.out] at BA5
      rw [colTo_steps _ _ HN.out]
      have BZ5 := BZ4.otherRow (C := w.heap.size) (by omega) (cellsOf .u8 (mk 16 (colTo mixK f (c + 1))))
      have BW5 := below_setRow BW4 (g := w.heap.size) (by omega) (cellsOf .u8 (mk 16 (colTo mixK f (c + 1))))
      clear BD4 BA4 BZ4 BW4 CD HD3 HA3 HZ3 HW3
      generalize w4.setRow w.heap.size (cellsOf .u8 (mk 16 (colTo mixK f (c + 1)))) = w5 at *
      have HA5 := Lib.hid BA5
      have HZ5 := Lib.hid BZ5
      have HW5 := Lib.hid BW5
      clear BA5 BZ5 BW5
      go_wp2
      go_roundw
      case rel => exact ⟨c + 1, n + 4, by omega, by have := HN.out; omega, by go_num, HA5.out, HZ5.out, HW5.out⟩
      case measure => simp [intOf]; omega
    · obtain rfl : c = 4 := by omega
      obtain rfl : n = 16 := by omega
      clear ha hz hw hn
      go_wp2_with (first
        | (refine wpList_load_row rfl 23 _ rfl w.heap.size rfl 23 (cellsOf .u8 (mk 16 (colK mixK f))) (0, 0) _ (by rw [← colTo_end]; exact HA.out) keyUnder rfl (keySize _) ?_)
        | (refine wpList_store_row rfl 23 _ _ rfl (w.heap.size + 1) _ rfl rfl 23 (cellsOf .u8 (mk 16 zeroK)) HZ.out (keySize _) (by rw [cellsOf_size, cellsOf_size, mk_len, mk_len]) (cellsOf_one _ _) ?_))
      refine bodyPost_ret (results_cell_row rfl _ _ (w.heap.size + 1) 23 (cellsOf .u8 (mk 16 (colK mixK f))) (0, 0) _ rfl (HZ.out.setRow .u8 (mk 16 (colK mixK f))) keyUnder rfl (keySize _)) rfl ⟨rfl, below_setRow HW.out (by omega) _⟩

set_option maxRecDepth 100000 in
set_option maxHeartbeats 2000000 in
theorem unmCols_any (f : Nat → Nat) (hf : IsKey f) (w : World) :
    Calls Try.prog 39 #[.agg (cellsOf .u8 (mk 16 f)), .func (.func 16) #[] #[]] w fun e w' => e = .returned (.agg (cellsOf .u8 (mk 16 (colK unmK f)))) ∧ Below w.heap.size w w' := by
  go_enter Try.func39, Try.ntmps39
  go_wp2
  go_loopw [5] (fun v5 wr => ∃ c n : Nat, c ≤ 4 ∧ n = 4 * c ∧ v5 = .int .i64 n ∧ IntBlk wr w.heap.size .u8 23 (mk 16 (colTo unmK f c)) ∧ IntBlk wr (w.heap.size + 1) .u8 23 (mk 16 zeroK) ∧ Below w.heap.size w wr) (fun v5 _ => 16 - (intOf v5).toNat)
  case atStart => exact ⟨0, 0, by omega, rfl, rfl, by rw [colTo_start]; exact (IntBlk.new w .u8 23 (mk 16 f)).alloc _, blk_two w .u8 23 (mk 16 zeroK) _, below_two w _ _⟩
  case round =>
    obtain ⟨c, n, hc, hn, rfl, ha, hz, hw⟩ := hrel
    have hs : w.heap.size + 1 < wr.heap.size := hz.lt
    have HA := Lib.hid ha
    have HZ := Lib.hid hz
    have HW := Lib.hid hw
    have HN := Lib.hid hn
    by_cases hlt : n < 16
    · have hc4 : c < 4 := by omega
      have CA : Cells (wr.alloc (.cells (cellsOf .u8 (mk 4 zeroK)) 26)).drew w.heap.size n 4 (colAt f c) := by
        have := ((ha.alloc (.cells (cellsOf .u8 (mk 4 zeroK)) 26)).drew).cells (o := n) (n := 4) (by omega)
        rw [hn] at this ⊢
        rw [colTo_at] at this; exact this
      have BD := (IntBlk.new wr .u8 26 (mk 4 zeroK)).drew
      have BA := (ha.alloc (.cells (cellsOf .u8 (mk 4 zeroK)) 26)).drew
      have BZ := (hz.alloc (.cells (cellsOf .u8 (mk 4 zeroK)) 26)).drew
      have BW := (hw.alloc (by omega) (.cells (cellsOf .u8 (mk 4 zeroK)) 26)).drew
      have hn12 : 4 ≤ 16 - n := by omega
      have hcol := colAt_word hf hc4
      clear ha hz hw hn
      go_wp2
      have e1 : (n : Int) < 16 := by omega
      have e2 : (0 : Int) ≤ n := by omega
      have e3 : (n : Int) ≤ 16 := by omega
      have e4 : ¬ (16 = n) := by omega
      refine wp_region_still_tail 3 (by kernel_rfl) (by kernel_rfl) ?_
      simp only [List.take_succ_cons, List.take_zero, List.drop_succ_cons, List.drop_zero]
      iterate 3 still_step
      refine wpStill_nil ?_
      change wpList _ _ _ _ _ (wr.alloc (.cells (cellsOf .u8 (mk 4 zeroK)) 26)).drew
      generalize (wr.alloc (.cells (cellsOf .u8 (mk 4 zeroK)) 26)).drew = w1 at *
      refine wpList_copy_part rfl _ _ _ _ rfl 5 bytesUnder byteInfo wr.heap.size 0 4 4 w.heap.size n (16 - n) (16 - n) 4 4 zeroK (colAt f c) rfl rfl 26 BD (by omega) (Nat.min_eq_right hn12).symm CA ?_
      have BD2 := BD.setRow .u8 (mk 4 (put zeroK 0 4 (colAt f c)))
      rw [put_all] at BD2 ⊢
      have BA2 := BA.otherRow (C := wr.heap.size) (by omega) (cellsOf .u8 (mk 4 (colAt f c)))
      have BZ2 := BZ.otherRow (C := wr.heap.size) (by omega) (cellsOf .u8 (mk 4 (colAt f c)))
      have BW2 := below_setRow BW (g := wr.heap.size) (by omega) (cellsOf .u8 (mk 4 (colAt f c)))
      generalize w1.setRow wr.heap.size (cellsOf .u8 (mk 4 (colAt f c))) = w2 at *
      have HD2 := Lib.hid BD2
      clear CA BD BA BZ BW BD2 HA HZ HW
      go_wp2_with (first
        | (refine wpList_load_row rfl 26 _ rfl wr.heap.size rfl 26 (cellsOf .u8 (mk 4 (colAt f c))) (0, 0) _ HD2.out wordUnder rfl (wordSize _) ?_)
        | fail)
      refine (Unmix_any (colAt f c) hcol _).mono ?_
      rintro e w3 ⟨rfl, hb3⟩
      have HD3 := Lib.hid (HD2.out.below hb3 HD2.out.lt)
      have HA3 := Lib.hid (BA2.below hb3 BA2.lt)
      have HZ3 := Lib.hid (BZ2.below hb3 BZ2.lt)
      have HW3 := Lib.hid (BW2.trans (hb3.mono BW2.size))
      clear hb3 HD2 BA2 BZ2 BW2
      go_wp2_with (first
        | (refine store_row_on rfl 26 _ _ rfl rfl wr.heap.size (cellsOf .u8 (mk 4 (unmK (colAt f c)))) rfl rfl 26 (cellsOf .u8 (mk 4 (colAt f c))) HD3.out (wordSize _) (by rw [cellsOf_size, cellsOf_size, mk_len, mk_len]) (cellsOf_one _ _) ?_)
        | fail)
      have BD4 := (HD3.out.setRow .u8 (mk 4 (unmK (colAt f c)))).drew
      have BA4 := (HA3.out.otherRow (C := wr.heap.size) (by omega) (cellsOf .u8 (mk 4 (unmK (colAt f c))))).drew
      have BZ4 := (HZ3.out.otherRow (C := wr.heap.size) (by omega) (cellsOf .u8 (mk 4 (unmK (colAt f c))))).drew
      have BW4 := (below_setRow HW3.out (g := wr.heap.size) (by omega) (cellsOf .u8 (mk 4 (unmK (colAt f c))))).drew
      refine wp_region_still_tail 3 (by kernel_rfl) (by kernel_rfl) ?_
      simp only [List.take_succ_cons, List.take_zero, List.drop_succ_cons, List.drop_zero]
      iterate 3 still_step
      refine wpStill_nil ?_
      change wpList _ _ _ _ _ (w3.setRow wr.heap.size (cellsOf .u8 (mk 4 (unmK (colAt f c))))).drew
      generalize (w3.setRow wr.heap.size (cellsOf .u8 (mk 4 (unmK (colAt f c))))).drew = w4 at *
      have CD : Cells w4 wr.heap.size 0 4 (unmK (colAt f c)) := by
        have := BD4.cells (o := 0) (n := 4) (by omega)
        simpa using this
      refine wpList_copy_part rfl _ _ _ _ rfl 5 bytesUnder byteInfo w.heap.size n (16 - n) (16 - n) wr.heap.size 0 4 4 4 16 (colTo unmK f c) (unmK (colAt f c)) rfl rfl 23 BA4 (by omega) (Nat.min_eq_left hn12).symm CD ?_
      have BA5 := BA4.setRow .u8 (mk 16 (put (colTo unmK f c) n 4 (unmK (colAt f c))))
      rw [colTo_steps _ _ HN.out] at BA5
      rw [colTo_steps _ _ HN.out]
      have BZ5 := BZ4.otherRow (C := w.heap.size) (by omega) (cellsOf .u8 (mk 16 (colTo unmK f (c + 1))))
      have BW5 := below_setRow BW4 (g := w.heap.size) (by omega) (cellsOf .u8 (mk 16 (colTo unmK f (c + 1))))
      clear BD4 BA4 BZ4 BW4 CD HD3 HA3 HZ3 HW3
      generalize w4.setRow w.heap.size (cellsOf .u8 (mk 16 (colTo unmK f (c + 1)))) = w5 at *
      have HA5 := Lib.hid BA5
      have HZ5 := Lib.hid BZ5
      have HW5 := Lib.hid BW5
      clear BA5 BZ5 BW5
      go_wp2
      go_roundw
      case rel => exact ⟨c + 1, n + 4, by omega, by have := HN.out; omega, by go_num, HA5.out, HZ5.out, HW5.out⟩
      case measure => simp [intOf]; omega
    · obtain rfl : c = 4 := by omega
      obtain rfl : n = 16 := by omega
      clear ha hz hw hn
      go_wp2_with (first
        | (refine wpList_load_row rfl 23 _ rfl w.heap.size rfl 23 (cellsOf .u8 (mk 16 (colK unmK f))) (0, 0) _ (by rw [← colTo_end]; exact HA.out) keyUnder rfl (keySize _) ?_)
        | (refine wpList_store_row rfl 23 _ _ rfl (w.heap.size + 1) _ rfl rfl 23 (cellsOf .u8 (mk 16 zeroK)) HZ.out (keySize _) (by rw [cellsOf_size, cellsOf_size, mk_len, mk_len]) (cellsOf_one _ _) ?_))
      refine bodyPost_ret (results_cell_row rfl _ _ (w.heap.size + 1) 23 (cellsOf .u8 (mk 16 (colK unmK f))) (0, 0) _ rfl (HZ.out.setRow .u8 (mk 16 (colK unmK f))) keyUnder rfl (keySize _)) rfl ⟨rfl, below_setRow HW.out (by omega) _⟩

end Go.Proofs.Ytilfjmpoiiepkaa

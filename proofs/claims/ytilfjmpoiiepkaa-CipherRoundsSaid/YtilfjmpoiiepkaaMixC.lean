/- The contracts of package cipher's multiply, Mix and Unmix: each answers the column that the plain functions say, and writes nothing that was there. Condition: the columns' bytes are bytes. -/
import Derived.Test.YtilfjmpoiiepkaaWordS
import Derived.Test.YtilfjmpoiiepkaaFieldC
import Derived.Test.YtilfjmpoiiepkaaQuietC
namespace Go.Proofs.Ytilfjmpoiiepkaa
open Go.ChangeShapes Go.WideShapes Go.ChangeAt Go.RowKit

def IsWord (f : Nat → Nat) : Prop := ∀ i, i < 4 → f i < 256
/-- The sum of the first n products for byte k. -/
def mxS (f g : Nat → Nat) (k : Nat) : Nat → Nat
  | 0 => 0
  | n + 1 => mxS f g k n ^^^ mul (f n) (g ((n + 4 - k) % 4))
def mxK (f g : Nat → Nat) (k : Nat) : Nat := mxS f g k 4
def mxTo (f g : Nat → Nat) (k n : Nat) : Nat → Nat := fun j => if j < k then mxK f g j else if j = k then mxS f g k n else 0
theorem mxS_lt {f g : Nat → Nat} (hf : IsWord f) (k : Nat) : ∀ n, n ≤ 4 → mxS f g k n < 256
  | 0, _ => by unfold mxS; omega
  | n + 1, h => xor_lt (mxS_lt hf k n (by omega)) (mul_lt (hf n (by omega)))
theorem mxK_word {f g : Nat → Nat} (hf : IsWord f) : IsWord (mxK f g) := fun k _ => mxS_lt hf k 4 (by omega)
theorem mxTo_start (f g : Nat → Nat) : mk 4 (mxTo f g 0 0) = mk 4 zeroK := mk_ext fun j _ => by
  unfold mxTo zeroK; rw [if_neg (by omega)]; split <;> rfl
theorem mxTo_end (f g : Nat → Nat) : mk 4 (mxTo f g 4 0) = mk 4 (mxK f g) := mk_ext fun j hj => by unfold mxTo; rw [if_pos hj]
theorem mxTo_next (f g : Nat → Nat) (k : Nat) : mk 4 (mxTo f g k 4) = mk 4 (mxTo f g (k + 1) 0) := mk_ext fun j hj => by
  unfold mxTo
  by_cases e : j = k
  · subst e; rw [if_neg (by omega), if_pos rfl, if_pos (by omega)]; rfl
  · by_cases l : j < k
    · rw [if_pos l, if_pos (by omega)]
    · rw [if_neg l, if_neg e, if_neg (by omega)]; split <;> rfl
theorem mxTo_at (f g : Nat → Nat) (k n : Nat) : mxTo f g k n k = mxS f g k n := by unfold mxTo; rw [if_neg (by omega), if_pos rfl]
theorem mxTo_step (f g : Nat → Nat) (k n : Nat) {s v : Nat} (hs : mxS f g k n = s) (hv : mul (f n) (g ((n + 4 - k) % 4)) = v) : (mk 4 (mxTo f g k n)).set k ((s ^^^ v : Nat) : Int) = mk 4 (mxTo f g k (n + 1)) := by
  subst hs hv
  refine mk_set_is rfl fun j _ => ?_
  unfold mxTo
  by_cases e : j = k
  · subst e; rw [if_pos rfl, if_neg (by omega), if_pos rfl]; rfl
  · rw [if_neg e]
    by_cases l : j < k
    · rw [if_pos l, if_pos l]
    · rw [if_neg l, if_neg l, if_neg e, if_neg e]
theorem Mul_nat (x y : Nat) (hx : x < 256) (hy : y < 256) (w : World) :
    Calls Try.prog 45 #[.int .u8 (x : Int), .int .u8 (y : Int)] w fun e w' => e = .returned (.int .u8 (mul x y : Nat)) ∧ w' = w :=
  (Mul_any x y (by omega) (by omega) (by omega) (by omega) w).mono fun _ _ ⟨he, hw⟩ => ⟨by rw [he]; simp [mulI], hw.symm⟩
attribute [local irreducible] mul mxS

set_option maxRecDepth 100000 in
set_option maxHeartbeats 2000000 in
theorem multiply_any (f g : Nat → Nat) (hf : IsWord f) (hg : IsWord g) (w : World) :
    Calls Try.prog 32 #[.agg (cellsOf .u8 (mk 4 f)), .agg (cellsOf .u8 (mk 4 g))] w fun e w' => e = .returned (.agg (cellsOf .u8 (mk 4 (mxK f g)))) ∧ Below w.heap.size w w' := by
  go_enter Try.func32, Try.ntmps32
  go_wp2
  go_loopw [9] (fun v9 wr => ∃ k : Nat, k ≤ 4 ∧ v9 = .int .i64 k ∧ IntBlk wr w.heap.size .u8 26 (mk 4 f) ∧ IntBlk wr (w.heap.size + 1) .u8 26 (mk 4 g) ∧ IntBlk wr (w.heap.size + 1 + 1) .u8 26 (mk 4 zeroK) ∧ IntBlk wr (w.heap.size + 1 + 1 + 1) .u8 26 (mk 4 (mxTo f g k 0)) ∧ Below w.heap.size w wr) (fun v9 _ => 4 - (intOf v9).toNat)
  case atStart => exact ⟨0, by omega, rfl, (blk_first w .u8 _ (mk 4 f) _ _).alloc _, (blk_second w .u8 _ (mk 4 g) _ _).alloc _, (blk_third w .u8 _ (mk 4 zeroK) _ _).alloc _, by rw [mxTo_start]; exact blk_fourth w .u8 _ (mk 4 zeroK) _ _ _, below_four w _ _ _ _⟩
  case round =>
    obtain ⟨k, hk, rfl, ha, hb, hz, hd, hw⟩ := hrel
    have HA := Lib.hid ha
    have HB := Lib.hid hb
    have HZ := Lib.hid hz
    have HD := Lib.hid hd
    have HW := Lib.hid hw
    clear ha hb hz hd hw
    by_cases hlt : k < 4
    · have hr1 : decide ((k : Int) < 4) = true := by simp; omega
      go_wp2_with (refine wpList_load_row rfl 26 _ rfl w.heap.size rfl 26 (cellsOf .u8 (mk 4 f)) (0, 0) _ HA.out wordUnder rfl (wordSize f) ?_)
      go_loopw [13] (fun v13 wr => ∃ i : Nat, i ≤ 4 ∧ v13 = .int .i64 i ∧ IntBlk wr w.heap.size .u8 26 (mk 4 f) ∧ IntBlk wr (w.heap.size + 1) .u8 26 (mk 4 g) ∧ IntBlk wr (w.heap.size + 1 + 1) .u8 26 (mk 4 zeroK) ∧ IntBlk wr (w.heap.size + 1 + 1 + 1) .u8 26 (mk 4 (mxTo f g k i)) ∧ Below w.heap.size w wr) (fun v13 _ => 4 - (intOf v13).toNat)
      case atStart => exact ⟨0, by omega, rfl, HA.out, HB.out, HZ.out, HD.out, HW.out⟩
      case round =>
        clear HA HB HZ HD HW
        obtain ⟨i, hi, rfl, ha, hb, hz, hd, hw⟩ := hrel
        have HA := Lib.hid ha
        have HB := Lib.hid hb
        have HZ := Lib.hid hz
        have HD := Lib.hid hd
        have HW := Lib.hid hw
        by_cases hli : i < 4
        · have hp : (i + 4 - k) % 4 < 4 := by omega
          have c1 := hd.cell (i := k) (by rw [mk_len]; exact hlt)
          rw [mk_get hlt, mxTo_at] at c1
          have f1 := hd.free k
          have c2 := hb.cell (i := (i + 4 - k) % 4) (by rw [mk_len]; exact hp)
          rw [mk_get hp] at c2
          have f2 := hb.free ((i + 4 - k) % 4)
          have ki := word_index f hli
          have hx := hf i hli
          have hy := hg _ hp
          have hs := mxS_lt (g := g) hf k i (by omega)
          have hm := mul_lt (b := g ((i + 4 - k) % 4)) hx
          have CM := Lib.hid (fun W => Mul_nat _ _ hx hy W)
          have hv := mxTo_step f g k i rfl rfl
          have bx := bits_xor_u8 hs hm
          generalize mxS f g k i = s at *
          generalize mul (f i) (g ((i + 4 - k) % 4)) = m at *
          have HV := Lib.hid hv
          clear ha hb hz hd hw hv
          have e1 : (k : Int) < 4 := by omega
          have e2 : (0 : Int) ≤ k := by omega
          have e3 : (i : Int) < 4 := by omega
          have e4 : (0 : Int) ≤ i := by omega
          have q1 : IntKind.i64.wrap ((i : Int) - k) = (i : Int) - k := IntWalk.i64_in _ (by omega)
          have q2 : IntKind.i64.wrap ((i : Int) - k + 4) = (i : Int) - k + 4 := IntWalk.i64_in _ (by omega)
          have q3 : ((i : Int) - k + 4).tmod 4 = ((i : Int) - k) % 4 := by rw [IntWalk.rem_in _ _ (by omega)]; omega
          have q4 : (0 : Int) ≤ ((i : Int) - k) % 4 := by omega
          have q5 : ((i : Int) - k) % 4 < 4 := by omega
          have q6 : (((i : Int) - k) % 4).toNat = (i + 4 - k) % 4 := by omega
          go_wp2
          refine wp_region_still_tail 14 (by kernel_rfl) (by kernel_rfl) ?_
          simp only [List.take_succ_cons, List.take_zero, List.drop_succ_cons, List.drop_zero]
          change wpStill _ _ wr.drew (fun a' => wpList _ _ _ _ a' wr.drew) _ _
          iterate 11 still_step
          refine wpStill_step (fun K hK => ?_)
          go_simp
          refine ⟨_, CM.out _, hK _ ?_⟩
          clear hK K
          iterate 2 still_step
          refine wpStill_nil ?_
          go_wp2
          go_roundw
          case rel => exact ⟨i + 1, by omega, by go_num, (HA.out.other (by show w.heap.size + 1 + 1 + 1 ≠ w.heap.size; omega) _).drew, (HB.out.other (by show w.heap.size + 1 + 1 + 1 ≠ w.heap.size + 1; omega) _).drew, (HZ.out.other (by show w.heap.size + 1 + 1 + 1 ≠ w.heap.size + 1 + 1; omega) _).drew, by rw [← HV.out]; exact (HD.out.set k _).drew, (HW.out.setCell (by show w.heap.size ≤ w.heap.size + 1 + 1 + 1; omega) _).drew⟩
          case measure => simp [intOf]; omega
        · obtain rfl : i = 4 := by omega
          clear ha hb hz hd hw
          go_wp2
          go_roundw
          case rel => exact ⟨k + 1, by omega, by go_num, HA.out, HB.out, HZ.out, by rw [← mxTo_next]; exact HD.out, HW.out⟩
          case measure => simp [intOf]; omega
    · obtain rfl : k = 4 := by omega
      go_wp2_with (first
        | (refine wpList_load_row rfl 26 _ rfl (w.heap.size + 1 + 1 + 1) rfl 26 (cellsOf .u8 (mk 4 (mxK f g))) (0, 0) _ (by rw [← mxTo_end]; exact HD.out) wordUnder rfl (wordSize _) ?_)
        | (refine wpList_store_row rfl 26 _ _ rfl (w.heap.size + 1 + 1) _ rfl rfl 26 (cellsOf .u8 (mk 4 zeroK)) HZ.out (wordSize _) (by rw [cellsOf_size, cellsOf_size, mk_len, mk_len]) (cellsOf_one _ _) ?_))
      refine bodyPost_ret (results_cell_row rfl _ _ (w.heap.size + 1 + 1) 26 (cellsOf .u8 (mk 4 (mxK f g))) (0, 0) _ rfl (HZ.out.setRow .u8 (mk 4 (mxK f g))) wordUnder rfl (wordSize _)) rfl ⟨rfl, below_setRow HW.out (by omega) _⟩

/-- The factors. -/
def facM : Nat → Nat := fun i => if i = 0 then 2 else if i = 1 then 3 else 1
def facU : Nat → Nat := fun i => if i = 0 then 14 else if i = 1 then 11 else if i = 2 then 13 else 9
theorem facM_word : IsWord facM := fun i _ => by unfold facM; (repeat' split) <;> omega
theorem facU_word : IsWord facU := fun i _ => by unfold facU; (repeat' split) <;> omega
def mixK (f : Nat → Nat) : Nat → Nat := mxK f facM
def unmK (f : Nat → Nat) : Nat → Nat := mxK f facU
theorem mixK_word {f : Nat → Nat} (hf : IsWord f) : IsWord (mixK f) := mxK_word hf
theorem unmK_word {f : Nat → Nat} (hf : IsWord f) : IsWord (unmK f) := mxK_word hf

set_option maxRecDepth 100000 in
set_option maxHeartbeats 1000000 in
theorem Mix_any (f : Nat → Nat) (hf : IsWord f) (w : World) :
    Calls Try.prog 14 #[.agg (cellsOf .u8 (mk 4 f))] w fun e w' => e = .returned (.agg (cellsOf .u8 (mk 4 (mixK f)))) ∧ Below w.heap.size w w' := by
  go_enter Try.func14, Try.ntmps14
  go_wp2_with (first
    | (refine wpList_load_row rfl 26 _ rfl w.heap.size rfl 26 (cellsOf .u8 (mk 4 f)) (0, 0) _ ((IntBlk.new w .u8 26 (mk 4 f)).alloc _) wordUnder rfl (wordSize f) ?_)
    | fail)
  refine (multiply_any f facM hf facM_word _).mono ?_
  rintro e w1 ⟨rfl, hb⟩
  have hz := (blk_two w .u8 26 (mk 4 zeroK) (.cells (cellsOf .u8 (mk 4 f)) 26)).below hb (by simp)
  have hw := (below_two w _ _).trans (hb.mono (by simp; omega))
  have HZ := Lib.hid hz
  have HW := Lib.hid hw
  clear hz hw hb
  go_wp2_with (refine wpList_store_row rfl 26 _ _ rfl (w.heap.size + 1) _ rfl rfl 26 (cellsOf .u8 (mk 4 zeroK)) HZ.out (wordSize _) (by rw [cellsOf_size, cellsOf_size, mk_len, mk_len]) (cellsOf_one _ _) ?_)
  refine bodyPost_ret (results_cell_row rfl _ _ (w.heap.size + 1) 26 (cellsOf .u8 (mk 4 (mixK f))) (0, 0) _ rfl (HZ.out.setRow .u8 (mk 4 (mixK f))) wordUnder rfl (wordSize _)) rfl ⟨rfl, below_setRow HW.out (by omega) _⟩

set_option maxRecDepth 100000 in
set_option maxHeartbeats 1000000 in
theorem Unmix_any (f : Nat → Nat) (hf : IsWord f) (w : World) :
    Calls Try.prog 16 #[.agg (cellsOf .u8 (mk 4 f))] w fun e w' => e = .returned (.agg (cellsOf .u8 (mk 4 (unmK f)))) ∧ Below w.heap.size w w' := by
  go_enter Try.func16, Try.ntmps16
  go_wp2_with (first
    | (refine wpList_load_row rfl 26 _ rfl w.heap.size rfl 26 (cellsOf .u8 (mk 4 f)) (0, 0) _ ((IntBlk.new w .u8 26 (mk 4 f)).alloc _) wordUnder rfl (wordSize f) ?_)
    | fail)
  refine (multiply_any f facU hf facU_word _).mono ?_
  rintro e w1 ⟨rfl, hb⟩
  have hz := (blk_two w .u8 26 (mk 4 zeroK) (.cells (cellsOf .u8 (mk 4 f)) 26)).below hb (by simp)
  have hw := (below_two w _ _).trans (hb.mono (by simp; omega))
  have HZ := Lib.hid hz
  have HW := Lib.hid hw
  clear hz hw hb
  go_wp2_with (refine wpList_store_row rfl 26 _ _ rfl (w.heap.size + 1) _ rfl rfl 26 (cellsOf .u8 (mk 4 zeroK)) HZ.out (wordSize _) (by rw [cellsOf_size, cellsOf_size, mk_len, mk_len]) (cellsOf_one _ _) ?_)
  refine bodyPost_ret (results_cell_row rfl _ _ (w.heap.size + 1) 26 (cellsOf .u8 (mk 4 (unmK f))) (0, 0) _ rfl (HZ.out.setRow .u8 (mk 4 (unmK f))) wordUnder rfl (wordSize _)) rfl ⟨rfl, below_setRow HW.out (by omega) _⟩
end Go.Proofs.Ytilfjmpoiiepkaa

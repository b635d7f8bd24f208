/- The contract of package field's Times: a key doubled, or halved, so many times; the key itself beyond 4096. It writes nothing that was there. Condition: the key's bytes are bytes. -/
import Derived.Test.YtccjpofngannhaaQuiet
namespace Go.Proofs.Ytccjpofngannhaa
open Go.ChangeShapes Go.WideShapes Go.ChangeAt Go.RowKit

def itK (g : (Nat → Nat) → Nat → Nat) : Nat → (Nat → Nat) → Nat → Nat
  | 0, f => f
  | n + 1, f => g (itK g n f)
theorem itK_key {g : (Nat → Nat) → Nat → Nat} (hg : ∀ f, IsKey f → IsKey (g f)) {f : Nat → Nat} (hf : IsKey f) : ∀ n, IsKey (itK g n f)
  | 0 => hf
  | n + 1 => hg _ (itK_key hg hf n)
theorem itK_in (g : (Nat → Nat) → Nat → Nat) (f : Nat → Nat) : ∀ n, itK g (n + 1) f = itK g n (g f)
  | 0 => rfl
  | n + 1 => by show g (itK g (n + 1) f) = g (itK g n (g f)); rw [itK_in g f n]
theorem dbl_congr {f g : Nat → Nat} (h : ∀ j, j < 16 → f j = g j) : ∀ j, j < 16 → dbl f j = dbl g j := fun j hj => by
  have c : carry f j = carry g j := by unfold carry; split; rfl; rw [h (j - 1) (by omega)]
  have c0 : carry f 0 = carry g 0 := rfl
  unfold dbl dbl0
  rw [h j hj, h 0 (by omega), h 15 (by omega), c, c0]
theorem itK_congr {f g : Nat → Nat} (h : ∀ j, j < 16 → f j = g j) : ∀ n j, j < 16 → itK dbl n f j = itK dbl n g j
  | 0, j, hj => h j hj
  | n + 1, j, hj => dbl_congr (itK_congr h n) j hj
theorem back {f : Nat → Nat} (hf : IsKey f) : ∀ n j, j < 16 → itK dbl n (itK hlv n f) j = f j
  | 0, _, _ => rfl
  | n + 1, j, hj => by
    rw [itK_in dbl]
    show itK dbl n (dbl (hlv (itK hlv n f))) j = f j
    rw [itK_congr (g := itK hlv n f) (fun i hi => dbl_hlv (itK_key (fun f h => hlv_key h) hf n) hi) n j hj]
    exact back hf n j hj
/-- What Times answers. -/
def timesK (f : Nat → Nat) (n : Int) : Nat → Nat := if n < -4096 ∨ 4096 < n then f else if n < 0 then itK hlv (-n).toNat f else itK dbl n.toNat f
theorem times_far {f : Nat → Nat} {n : Int} (h : n < -4096 ∨ 4096 < n) : timesK f n = f := by unfold timesK; rw [if_pos h]
theorem times_neg {f : Nat → Nat} {n : Int} (h : -4096 ≤ n) (h0 : n < 0) : timesK f n = itK hlv (-n).toNat f := by unfold timesK; rw [if_neg (by omega), if_pos h0]
theorem times_pos {f : Nat → Nat} {n : Int} (h : n ≤ 4096) (h0 : 0 ≤ n) : timesK f n = itK dbl n.toNat f := by unfold timesK; rw [if_neg (by omega), if_neg (by omega)]
theorem times_key {f : Nat → Nat} (hf : IsKey f) (n : Int) : IsKey (timesK f n) := by
  unfold timesK; split
  · exact hf
  · split
    · exact itK_key (fun f h => hlv_key h) hf _
    · exact itK_key (fun f h => dbl_key h) hf _

set_option maxRecDepth 100000 in
set_option maxHeartbeats 2000000 in
theorem Times_far (f : Nat → Nat) (n : Int) (hn : n < -4096 ∨ 4096 < n) (w : World) :
    Calls Try.prog 24 #[.agg (cellsOf .u8 (mk 16 f)), .int .i64 n] w fun e w' => e = .returned (.agg (cellsOf .u8 (mk 16 f))) ∧ Below w.heap.size w w' := by
  rcases hn with h | h
  all_goals
    go_enter Try.func24, Try.ntmps24
    go_wp2_with (first
      | (refine wpList_load_row rfl 28 _ rfl w.heap.size rfl 28 (cellsOf .u8 (mk 16 f)) (0, 0) _ ((IntBlk.new w .u8 28 (mk 16 f)).alloc _) keyUnder rfl (keySize _) ?_)
      | (refine wpList_store_row rfl 28 _ _ rfl (w.heap.size + 1) _ rfl rfl 28 (cellsOf .u8 (mk 16 zeroK)) (blk_two w .u8 _ (mk 16 zeroK) _) (keySize _) (by rw [cellsOf_size, cellsOf_size, mk_len, mk_len]) (cellsOf_one _ _) ?_))
    refine bodyPost_ret (results_cell_row rfl _ _ (w.heap.size + 1) 28 (cellsOf .u8 (mk 16 f)) (0, 0) _ rfl ((blk_two w .u8 _ (mk 16 zeroK) _).setRow .u8 (mk 16 f)) keyUnder rfl (keySize _)) rfl ⟨rfl, below_setRow (below_two w _ _) (by omega) _⟩

-- LOOPS
set_option maxRecDepth 100000 in
set_option maxHeartbeats 2000000 in
theorem Times_pos (f : Nat → Nat) (hf : IsKey f) (n : Int) (h0 : 0 ≤ n) (h1 : n ≤ 4096) (w : World) :
    Calls Try.prog 24 #[.agg (cellsOf .u8 (mk 16 f)), .int .i64 n] w fun e w' => e = .returned (.agg (cellsOf .u8 (mk 16 (itK dbl n.toNat f)))) ∧ Below w.heap.size w w' := by
  go_enter Try.func24, Try.ntmps24
  go_wp2
  go_loopw [13] (fun v wr => ∃ k : Nat, k ≤ n.toNat ∧ v = .int .i64 k ∧ IntBlk wr w.heap.size .u8 28 (mk 16 (itK dbl k f)) ∧ IntBlk wr (w.heap.size + 1) .u8 28 (mk 16 zeroK) ∧ Below w.heap.size w wr) (fun v _ => n.toNat - (intOf v).toNat)
  case atStart => exact ⟨0, by omega, rfl, (IntBlk.new w .u8 28 (mk 16 f)).alloc _, blk_two w .u8 _ (mk 16 zeroK) _, below_two w _ _⟩
  case round =>
    obtain ⟨k, hk, rfl, hs, hz, hw⟩ := hrel
    have HS := Lib.hid hs
    have HZ := Lib.hid hz
    have HW := Lib.hid hw
    clear hs hz hw
    by_cases hlt : k < n.toNat
    · have hf' := itK_key (fun f h => dbl_key h) hf k
      have hlt' : (k : Int) < n := by omega
      go_wp2_with (first
        | (refine wpList_load_row rfl 28 _ rfl w.heap.size rfl 28 (cellsOf .u8 (mk 16 (itK dbl k f))) (0, 0) _ HS.out keyUnder rfl (keySize _) ?_)
        | (go_at_call 18; refine (Double_any _ hf' _).mono ?_; rintro e w1 ⟨rfl, hb⟩)
        | (refine store_row_on rfl 28 _ _ rfl rfl w.heap.size (cellsOf .u8 (mk 16 (dbl (itK dbl k f)))) rfl rfl 28 _ (HS.out.below hb HS.out.lt) (keySize _) (by rw [cellsOf_size, cellsOf_size, mk_len, mk_len]) (cellsOf_one _ _) ?_))
      go_roundw
      case rel => exact ⟨k + 1, by omega, by go_num, (HS.out.below hb HS.out.lt).setRow .u8 (mk 16 (itK dbl (k + 1) f)), (HZ.out.below hb HZ.out.lt).otherRow (by omega) _, below_setRow (HW.out.trans (hb.mono HW.out.size)) (Nat.le_refl _) _⟩
      case measure => simp [intOf]; omega
    · have ek : k = n.toNat := by omega
      rw [ek] at HS
      have hge : ¬ (k : Int) < n := by omega
      clear ek
      go_wp2
      go_loopw [20] (fun v wk => v = .int .i64 0 ∧ wk = wr) (fun _ _ => 0)
      case atStart => exact ⟨rfl, rfl⟩
      case round =>
        obtain ⟨rfl, rfl⟩ := hrel
        have hng : ¬ (0 : Int) < -n := by omega
        go_wp2_with (first
          | (refine wpList_load_row rfl 28 _ rfl w.heap.size rfl 28 (cellsOf .u8 (mk 16 (itK dbl n.toNat f))) (0, 0) _ HS.out keyUnder rfl (keySize _) ?_)
          | (refine wpList_store_row rfl 28 _ _ rfl (w.heap.size + 1) _ rfl rfl 28 (cellsOf .u8 (mk 16 zeroK)) HZ.out (keySize _) (by rw [cellsOf_size, cellsOf_size, mk_len, mk_len]) (cellsOf_one _ _) ?_))
        refine bodyPost_ret (results_cell_row rfl _ _ (w.heap.size + 1) 28 (cellsOf .u8 (mk 16 (itK dbl n.toNat f))) (0, 0) _ rfl (HZ.out.setRow .u8 (mk 16 (itK dbl n.toNat f))) keyUnder rfl (keySize _)) rfl ⟨rfl, below_setRow HW.out (by omega) _⟩

set_option maxRecDepth 100000 in
set_option maxHeartbeats 2000000 in
theorem Times_neg (f : Nat → Nat) (hf : IsKey f) (n : Int) (h0 : n < 0) (h1 : -4096 ≤ n) (w : World) :
    Calls Try.prog 24 #[.agg (cellsOf .u8 (mk 16 f)), .int .i64 n] w fun e w' => e = .returned (.agg (cellsOf .u8 (mk 16 (itK hlv (-n).toNat f)))) ∧ Below w.heap.size w w' := by
  go_enter Try.func24, Try.ntmps24
  go_wp2
  go_loopw [13] (fun v wk => v = .int .i64 0 ∧ IntBlk wk w.heap.size .u8 28 (mk 16 f) ∧ IntBlk wk (w.heap.size + 1) .u8 28 (mk 16 zeroK) ∧ Below w.heap.size w wk) (fun _ _ => 0)
  case atStart => exact ⟨rfl, (IntBlk.new w .u8 28 (mk 16 f)).alloc _, blk_two w .u8 _ (mk 16 zeroK) _, below_two w _ _⟩
  case round =>
    obtain ⟨rfl, hs, hz, hw⟩ := hrel
    have IS := Lib.hid hs
    have IZ := Lib.hid hz
    have IW := Lib.hid hw
    clear hs hz hw
    have hng : ¬ (0 : Int) < n := by omega
    go_wp2
    go_loopw [20] (fun v wr => ∃ k : Nat, k ≤ (-n).toNat ∧ v = .int .i64 k ∧ IntBlk wr w.heap.size .u8 28 (mk 16 (itK hlv k f)) ∧ IntBlk wr (w.heap.size + 1) .u8 28 (mk 16 zeroK) ∧ Below w.heap.size w wr) (fun v _ => (-n).toNat - (intOf v).toNat)
    case atStart => exact ⟨0, by omega, rfl, IS.out, IZ.out, IW.out⟩
    case round =>
      obtain ⟨k, hk, rfl, hs, hz, hw⟩ := hrel
      have HS := Lib.hid hs
      have HZ := Lib.hid hz
      have HW := Lib.hid hw
      clear hs hz hw
      by_cases hlt : k < (-n).toNat
      · have hf' := itK_key (fun f h => hlv_key h) hf k
        have hlt' : (k : Int) < -n := by omega
        go_wp2_with (first
          | (refine wpList_load_row rfl 28 _ rfl w.heap.size rfl 28 (cellsOf .u8 (mk 16 (itK hlv k f))) (0, 0) _ HS.out keyUnder rfl (keySize _) ?_)
          | (go_at_call 21; refine (Halve_any _ hf' _).mono ?_; rintro e w1 ⟨rfl, hb⟩)
          | (refine store_row_on rfl 28 _ _ rfl rfl w.heap.size (cellsOf .u8 (mk 16 (hlv (itK hlv k f)))) rfl rfl 28 _ (HS.out.below hb HS.out.lt) (keySize _) (by rw [cellsOf_size, cellsOf_size, mk_len, mk_len]) (cellsOf_one _ _) ?_))
        go_roundw
        case rel => exact ⟨k + 1, by omega, by go_num, (HS.out.below hb HS.out.lt).setRow .u8 (mk 16 (itK hlv (k + 1) f)), (HZ.out.below hb HZ.out.lt).otherRow (by omega) _, below_setRow (HW.out.trans (hb.mono HW.out.size)) (Nat.le_refl _) _⟩
        case measure => simp [intOf]; omega
      · have ek : k = (-n).toNat := by omega
        rw [ek] at HS
        have hge : ¬ (k : Int) < -n := by omega
        clear ek
        go_wp2_with (first
          | (refine wpList_load_row rfl 28 _ rfl w.heap.size rfl 28 (cellsOf .u8 (mk 16 (itK hlv (-n).toNat f))) (0, 0) _ HS.out keyUnder rfl (keySize _) ?_)
          | (refine wpList_store_row rfl 28 _ _ rfl (w.heap.size + 1) _ rfl rfl 28 (cellsOf .u8 (mk 16 zeroK)) HZ.out (keySize _) (by rw [cellsOf_size, cellsOf_size, mk_len, mk_len]) (cellsOf_one _ _) ?_))
        refine bodyPost_ret (results_cell_row rfl _ _ (w.heap.size + 1) 28 (cellsOf .u8 (mk 16 (itK hlv (-n).toNat f))) (0, 0) _ rfl (HZ.out.setRow .u8 (mk 16 (itK hlv (-n).toNat f))) keyUnder rfl (keySize _)) rfl ⟨rfl, below_setRow HW.out (by omega) _⟩

theorem Times_any (f : Nat → Nat) (hf : IsKey f) (n : Int) (w : World) :
    Calls Try.prog 24 #[.agg (cellsOf .u8 (mk 16 f)), .int .i64 n] w fun e w' => e = .returned (.agg (cellsOf .u8 (mk 16 (timesK f n)))) ∧ Below w.heap.size w w' := by
  by_cases h : n < -4096 ∨ 4096 < n
  · rw [times_far h]; exact Times_far f n h w
  · by_cases h0 : n < 0
    · rw [times_neg (by omega) h0]; exact Times_neg f hf n h0 (by omega) w
    · rw [times_pos (by omega) (by omega)]; exact Times_pos f hf n (by omega) (by omega) w
end Go.Proofs.Ytccjpofngannhaa

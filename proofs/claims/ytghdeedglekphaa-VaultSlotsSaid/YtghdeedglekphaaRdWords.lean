/- RdWords: cut out of XWdFill: package words' Fill. Conditions: as each says. -/
import Derived.Test.YtghdeedglekphaaPlBase
import Derived.Test.YtghdeedglekphaaWdNum
import Derived.Test.YtghdeedglekphaaWrCipher
namespace Go.Proofs.Ytghdeedglekphaa
open Go.ChangeShapes Go.WideShapes Go.ChangeAt Go.RowKit Go.Shelf
set_option linter.unusedVariables false
section
attribute [local irreducible] mk extF put
set_option maxRecDepth 100000 in
set_option maxHeartbeats 1000000 in
theorem Fill_ok (p : Option Addr) (n cap : Nat) (g : Nat → Nat) (hn : n ≤ 128) (w : World) (hp : BytesAt w p n g) :
    Calls Try.prog 19 #[.slice p n cap] w fun e w' => e = .returned (.tuple #[.agg (cellsOf .u8 (mk 128 (extF n g))), .nilIface]) ∧ Below w.heap.size w w' := by
  have d1 : decide ((128 : Int) < (n : Int)) = false := by simp; omega
  have d2 : decide (128 < n) = false := by simp; omega
  have b2 := below_two w (.cells (cellsOf .u8 (mk 128 zeroK)) 24) (.cells (cellsOf .u8 (mk 128 zeroK)) 24)
  have HP := Lib.hid (hp.below b2)
  have Y0 := Lib.hid ((IntBlk.new w .u8 24 (mk 128 zeroK)).alloc (.cells (cellsOf .u8 (mk 128 zeroK)) 24))
  have Z0 := Lib.hid (blk_two w .u8 24 (mk 128 zeroK) (.cells (cellsOf .u8 (mk 128 zeroK)) 24))
  have B0 := Lib.hid b2
  have HN := Lib.hid hn
  have HE := Lib.hid (extF_put n 128 g)
  clear b2 hp hn
  go_enter Try.func19, Try.ntmps19
  go_wp2_with (first
    | (refine wpList_sec_alloc rfl rfl w.heap.size rfl ?_)
    | (refine wpList_sec_alloc rfl rfl (w.heap.size + 1) ?own ?_
       case own => exact World.size_alloc _ _)
    | (refine wpList_sec_row rfl _ rfl (w.heap.size + 1) rfl ?_)
    | (refine wpList_copy_bytes rfl _ _ rfl (w.heap.size + 1) 0 128 128 128 zeroK _ rfl p n cap (fun _ => rfl) g rfl 24 Z0.out HN.out (by omega) HP.out ?_
       intro v w2 hr2 hb2 hs2
       rw [HE.out] at hr2
       have Z2 := Lib.hid hr2
       have Y2 := Lib.hid (hb2.blk Y0.out (by omega))
       have B2 := Lib.hid (B0.out.trans (hb2.below (by omega) B0.out.size))
       clear hr2 hb2 hs2 Y0 Z0 B0 HP HE)
    | (refine wpList_sec_load rfl _ rfl (w.heap.size + 1) (extF n g) rfl Z2.out ?_)
    | (refine store_row_on rfl 24 _ _ rfl rfl w.heap.size (cellsOf .u8 (mk 128 (extF n g))) rfl rfl 24 (cellsOf .u8 (mk 128 zeroK)) Y2.out (secSize _) (sec_same _ _) (cellsOf_one _ _) ?_))
  exact bodyPost_ret (results_cell_row_tmp rfl _ _ w.heap.size 24 (cellsOf .u8 (mk 128 (extF n g))) (0, 0) _ rfl (Y2.out.setRow .u8 (mk 128 (extF n g))) secUnder rfl (secSize _)) rfl ⟨rfl, below_setRow B2.out (Nat.le_refl _) _⟩
set_option maxRecDepth 100000 in
set_option maxHeartbeats 1000000 in
theorem Fill_range (p : Option Addr) (n cap : Nat) (hn : 128 < n) (w : World) :
    Calls Try.prog 19 #[.slice p n cap] w fun e w' => e = .returned (.tuple #[.agg (cellsOf .u8 (mk 128 zeroK)), .iface 33 (.int .i64 1)]) ∧ Below w.heap.size w w' := by
  have d1 : decide ((128 : Int) < (n : Int)) = true := by simp; omega
  have d2 : decide (128 < n) = true := by simp; omega
  have b2 := below_two w (.cells (cellsOf .u8 (mk 128 zeroK)) 24) (.cells (cellsOf .u8 (mk 128 zeroK)) 24)
  have Y0 := Lib.hid ((IntBlk.new w .u8 24 (mk 128 zeroK)).alloc (.cells (cellsOf .u8 (mk 128 zeroK)) 24))
  have B0 := Lib.hid b2
  clear b2 hn
  go_enter Try.func19, Try.ntmps19
  go_wp2_with (first
    | (refine wpList_sec_alloc rfl rfl w.heap.size rfl ?_)
    | (refine wpList_sec_alloc rfl rfl (w.heap.size + 1) ?own ?_
       case own => exact World.size_alloc _ _)
    | (refine wpList_sec_build0 rfl rfl ?_)
    | (refine store_row_on rfl 24 _ _ rfl rfl w.heap.size (cellsOf .u8 (mk 128 zeroK)) rfl rfl 24 (cellsOf .u8 (mk 128 zeroK)) Y0.out (secSize _) (sec_same _ _) (cellsOf_one _ _) ?_))
  exact bodyPost_ret (results_cell_row_tmp rfl _ _ w.heap.size 24 (cellsOf .u8 (mk 128 zeroK)) (0, 0) _ rfl (Y0.out.setRow .u8 (mk 128 zeroK)) secUnder rfl (secSize _)) rfl ⟨rfl, below_setRow B0.out (Nat.le_refl _) _⟩
end
end Go.Proofs.Ytghdeedglekphaa

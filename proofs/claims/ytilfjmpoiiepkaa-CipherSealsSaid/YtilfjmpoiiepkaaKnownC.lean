/- The contract of the law's own example: a key of 16 bytes and two blocks. No condition. -/
import Derived.Test.YtilfjmpoiiepkaaExample
import Derived.Test.YtilfjmpoiiepkaaOpenS
import Derived.Test.YtilfjmpoiiepkaaQuietS
import Derived.Great.BuildSlice
namespace Go.Proofs.Ytilfjmpoiiepkaa
open Go.ChangeShapes Go.WideShapes Go.ChangeAt Go.RowKit

theorem results_tmp_cells {P : Program} {fn : Func} {u p q : Tmp} {ty : TypeId} (h : fn.results = #[.tmp u, .cell p ty, .cell q ty]) (tmps : Array Value) (w : World) (g g' : Nat) (t t' : TypeId) (cs cs' : Array Value) (n : Nat) (e : TypeId)
    (hp : tmps.getD p undef = .pointer (some ⟨g, 0, none⟩)) (hq : tmps.getD q undef = .pointer (some ⟨g', 0, none⟩)) (hg : w.heap[g]? = some (.cells cs t (0, 0))) (hg' : w.heap[g']? = some (.cells cs' t' (0, 0)))
    (hu : P.underlying ty = some (.array n e)) (hi : (P.info? ty).map (·.size) = some cs.size) (hi' : (P.info? ty).map (·.size) = some cs'.size) :
    (results fn tmps).run P w = .ok (.tuple #[tmps.getD u undef, .agg cs, .agg cs']) w := by
  have hp' : tmps[p]?.getD undef = .pointer (some ⟨g, 0, none⟩) := by simpa using hp
  have hq' : tmps[q]?.getD undef = .pointer (some ⟨g', 0, none⟩) := by simpa using hq
  simp [results, h, hp', hq', asAddr, run_loadVar_row w g t ty cs (0, 0) _ hg hu rfl hi, run_loadVar_row w g' t' ty cs' (0, 0) _ hg' hu rfl hi']
theorem bytesAt_row {w : World} {B n : Nat} {t : TypeId} {f : Nat → Nat} (h : IntBlk w B .u8 t (mk n f)) : BytesAt w (some ⟨B, 0, none⟩) n f := .inr ⟨B, 0, rfl, h.lt, fun j hj => by
  have := h.cells (o := 0) (n := n) (by omega) j hj
  simpa using this⟩

set_option maxRecDepth 100000 in
set_option maxHeartbeats 2000000 in
theorem known_any (w : World) :
    Calls Try.prog 25 #[] w fun e w' => ∃ D, e = .returned (.tuple #[.slice (some ⟨D, 0, none⟩) 16 16, .agg (cellsOf .u8 (mk 16 keyB)), .agg (cellsOf .u8 (mk 16 keyC))]) ∧ BytesAt w' (some ⟨D, 0, none⟩) 16 keyA ∧ Below w.heap.size w w' := by
  have H1 := Lib.hid ((blk_first w .u8 23 (mk 16 zeroK) (.cells (cellsOf .u8 (mk 16 zeroK)) 23) (.cells (cellsOf .u8 (mk 16 keyA)) 5)))
  have H2 := Lib.hid ((blk_second w .u8 23 (mk 16 zeroK) (.cells (cellsOf .u8 (mk 16 zeroK)) 23) (.cells (cellsOf .u8 (mk 16 keyA)) 5)))
  have H3 := Lib.hid ((blk_third w .u8 5 (mk 16 keyA) (.cells (cellsOf .u8 (mk 16 zeroK)) 23) (.cells (cellsOf .u8 (mk 16 zeroK)) 23)))
  have HL := Lib.hid (below_three w (.cells (cellsOf .u8 (mk 16 zeroK)) 23) (.cells (cellsOf .u8 (mk 16 zeroK)) 23) (.cells (cellsOf .u8 (mk 16 keyA)) 5))
  go_enter Try.func25, Try.ntmps25
  go_wp2_with (first
    | (refine wpList_buildFlat rfl 29 5 16 _ rfl .u8 (mk 16 keyA) Try.underlying29 (by kernel_rfl) (by kernel_rfl) (by rw [mk_len]) (by omega) (by omega) (by kernel_rfl) ?_)
    | (refine wpList_buildTo rfl 23 _ rfl (some 6) rfl (cellsOf .u8 (mk 16 keyB)) (by kernel_rfl) ?_)
    | (refine wpList_buildTo rfl 23 _ rfl (some 7) rfl (cellsOf .u8 (mk 16 keyC)) (by kernel_rfl) ?_)
    | (refine store_row_on rfl 23 _ _ rfl rfl w.heap.size (cellsOf .u8 (mk 16 keyB)) rfl rfl 23 (cellsOf .u8 (mk 16 zeroK)) H1.out (keySize _) (by rw [cellsOf_size, cellsOf_size, mk_len, mk_len]) (cellsOf_one _ _) ?_)
    | (refine store_row_on rfl 23 _ _ rfl rfl (w.heap.size + 1) (cellsOf .u8 (mk 16 keyC)) rfl rfl 23 (cellsOf .u8 (mk 16 zeroK)) (H2.out.otherRow (by omega) _) (keySize _) (by rw [cellsOf_size, cellsOf_size, mk_len, mk_len]) (cellsOf_one _ _) ?_))
  refine bodyPost_ret (results_tmp_cells rfl _ _ w.heap.size (w.heap.size + 1) 23 23 (cellsOf .u8 (mk 16 keyB)) (cellsOf .u8 (mk 16 keyC)) 16 _ rfl rfl ((H1.out.setRow .u8 (mk 16 keyB)).otherRow (by omega) _) ((H2.out.otherRow (by omega) _).setRow .u8 (mk 16 keyC)) keyUnder (keySize _) (keySize _)) rfl ?_
  exact ⟨w.heap.size + 1 + 1, rfl, bytesAt_row ((H3.out.otherRow (by omega) _).otherRow (by omega) _), below_setRow (below_setRow HL.out (Nat.le_refl _) _) (by omega) _⟩
end Go.Proofs.Ytilfjmpoiiepkaa

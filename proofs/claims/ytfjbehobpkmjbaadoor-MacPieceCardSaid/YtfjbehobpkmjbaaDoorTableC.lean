/- The contract of package citadelref04's Table: the constants and the beginning. It writes nothing that was there. No condition. -/
import Derived.Test.YtfjbehobpkmjbaaDoorEightS
import Derived.Great.BuildSlice
import Derived.Test.YtfjbehobpkmjbaaDoorQuietG
namespace Go.Proofs.YtfjbehobpkmjbaaDoor
open Go.ChangeShapes Go.WideShapes Go.ChangeAt Go.RowKit
attribute [local irreducible] tabK begK

theorem results_two_cells {P : Program} {fn : Func} {p u : Tmp} {ty ty' : TypeId} (h : fn.results = #[.cell p ty, .cell u ty']) (tmps : Array Value) (w : World) (g g' : Nat) (t t' : TypeId) (cs cs' : Array Value) (fr fr' : Nat × Nat) (d d' : TypeDesc)
    (hp : tmps.getD p undef = .pointer (some ⟨g, 0, none⟩)) (hp' : tmps.getD u undef = .pointer (some ⟨g', 0, none⟩)) (hg : w.heap[g]? = some (.cells cs t fr)) (hg' : w.heap[g']? = some (.cells cs' t' fr'))
    (hu : P.underlying ty = some d) (hd : (match d with | .struct _ | .array _ _ => true | _ => false) = true) (hi : (P.info? ty).map (·.size) = some cs.size)
    (hu' : P.underlying ty' = some d') (hd' : (match d' with | .struct _ | .array _ _ => true | _ => false) = true) (hi' : (P.info? ty').map (·.size) = some cs'.size) :
    (results fn tmps).run P w = .ok (.tuple #[.agg cs, .agg cs']) w := by
  have e1 : tmps[p]?.getD undef = .pointer (some ⟨g, 0, none⟩) := by simpa using hp
  have e2 : tmps[u]?.getD undef = .pointer (some ⟨g', 0, none⟩) := by simpa using hp'
  simp [results, h, e1, e2, asAddr, run_loadVar_row w g t ty cs fr d hg hu hd hi, run_loadVar_row w g' t' ty' cs' fr' d' hg' hu' hd' hi']
set_option maxRecDepth 100000 in
theorem Table_any (w : World) : Calls Tryd.prog 32 #[] w fun e w' => e = .returned (.tuple #[.agg (cellsOf .u32 (mk 64 tabK)), .agg (cellsOf .u32 (mk 8 begK))]) ∧ Below w.heap.size w w' := by
  have HA := Lib.hid ((IntBlk.new w .u32 57 (mk 64 zeroK)).alloc (.cells (cellsOf .u32 (mk 8 zeroK)) 58))
  have HB := Lib.hid (blk_two w .u32 58 (mk 8 zeroK) (.cells (cellsOf .u32 (mk 64 zeroK)) 57))
  have HL := Lib.hid (below_two w (.cells (cellsOf .u32 (mk 64 zeroK)) 57) (.cells (cellsOf .u32 (mk 8 zeroK)) 58))
  go_enter Tryd.func32, Tryd.ntmps32
  go_wp2_with (first
    | (refine wpList_buildTo rfl 57 _ rfl (some 2) rfl (cellsOf .u32 (mk 64 tabK)) (by kernel_rfl) ?_)
    | (refine wpList_buildTo rfl 58 _ rfl (some 3) rfl (cellsOf .u32 (mk 8 begK)) (by kernel_rfl) ?_)
    | (refine store_row_on rfl 57 _ _ rfl rfl w.heap.size (cellsOf .u32 (mk 64 tabK)) rfl rfl 57 (cellsOf .u32 (mk 64 zeroK)) HA.out (schedSize _) (by rw [cellsOf_size, cellsOf_size, mk_len, mk_len]) (cellsOf_one _ _) ?_)
    | (refine store_row_on rfl 58 _ _ rfl rfl (w.heap.size + 1) (cellsOf .u32 (mk 8 begK)) rfl rfl 58 (cellsOf .u32 (mk 8 zeroK)) (HB.out.otherRow (by omega) _) (eightSize _) (by rw [cellsOf_size, cellsOf_size, mk_len, mk_len]) (cellsOf_one _ _) ?_))
  exact bodyPost_ret (results_two_cells rfl _ _ w.heap.size (w.heap.size + 1) 57 58 (cellsOf .u32 (mk 64 tabK)) (cellsOf .u32 (mk 8 begK)) (0, 0) (0, 0) _ _ rfl rfl ((HA.out.setRow .u32 (mk 64 tabK)).otherRow (by omega) _) ((HB.out.otherRow (by omega) _).setRow .u32 (mk 8 begK)) schedUnder rfl (schedSize _) eightUnder rfl (eightSize _)) rfl
    ⟨rfl, below_setRow (below_setRow HL.out (Nat.le_refl _) _) (by omega) _⟩
end Go.Proofs.YtfjbehobpkmjbaaDoor

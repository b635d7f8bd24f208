/- Eight words by value; the package's table in memory; arrays of integers by a variable index; boxes. No condition. -/
import Derived.Test.YtfjbehobpkmjbaaDoorRowsS
import Derived.Test.YtfjbehobpkmjbaaDoorPart
namespace Go.Proofs.YtfjbehobpkmjbaaDoor
open Go.ChangeShapes Go.WideShapes Go.ChangeAt Go.RowKit

theorem eightUnder : Tryd.prog.underlying 58 = some (.array 8 56) := Tryd.underlying58
theorem eightSize (f : Nat → Nat) : (Tryd.prog.info? 58).map (·.size) = some (cellsOf .u32 (mk 8 f)).size := by
  rw [cellsOf_size, mk_len]; kernel_rfl
/-- The package's variable holds the constants. -/
def TabAt (w : World) : Prop := ∀ i, i < 64 → w.cell? ⟨0, i, none⟩ = some (.int .u32 (tabK i : Nat))
theorem TabAt.pos {w : World} (h : TabAt w) : 0 < w.heap.size := by
  have := h 0 (by omega)
  unfold World.cell? at this
  cases ho : w.heap[0]? with
  | none => simp [ho] at this
  | some o => exact (Array.getElem?_eq_some_iff.1 ho).1
theorem TabAt.below {w w' : World} {M : Nat} (h : TabAt w) (hb : Below M w w') (hM : 0 < M := by first | assumption | omega) : TabAt w' := fun i hi => (hb.cell (p := ⟨0, i, none⟩) hM).trans (h i hi)
theorem TabAt.on {w w' : World} (h : TabAt w) (hb : Below w.heap.size w w') : TabAt w' := h.below hb h.pos
theorem run_index_at {P : Program} {e : TypeId} {k : IntKind} (t : TypeId) (n : Nat) (f : Nat → Nat) (ht : P.underlying t = some (.array n e)) (h : IntElem P e k) {i : Nat} (hi : i < n) (W : World) : (Instr.index t (.agg (cellsOf k (mk n f))) (.int .i64 i)).run P W = .ok (.int k (f i)) W := by
  have := run_index_ints W (t := t) (mk n f) (by rw [mk_len]; exact ht) h (i := i) (by rw [mk_len]; exact hi)
  rw [mk_get hi] at this; exact this
theorem runH_step (h w k : Nat → Nat) (i : Nat) : runH h w k (i + 1) = stepH (runH h w k i) (k i) (w i) := rfl
theorem three_boxes (w : World) (a b c : List Int) (ta tb tc : TypeId) :
    IntBlk (((w.alloc (.cells (cellsOf .u32 a) ta)).alloc (.cells (cellsOf .u32 b) tb)).alloc (.cells (cellsOf .u32 c) tc)) w.heap.size .u32 ta a ∧ IntBlk (((w.alloc (.cells (cellsOf .u32 a) ta)).alloc (.cells (cellsOf .u32 b) tb)).alloc (.cells (cellsOf .u32 c) tc)) (w.heap.size + 1) .u32 tb b ∧
    IntBlk (((w.alloc (.cells (cellsOf .u32 a) ta)).alloc (.cells (cellsOf .u32 b) tb)).alloc (.cells (cellsOf .u32 c) tc)) (w.heap.size + 1 + 1) .u32 tc c ∧ Below w.heap.size w (((w.alloc (.cells (cellsOf .u32 a) ta)).alloc (.cells (cellsOf .u32 b) tb)).alloc (.cells (cellsOf .u32 c) tc)) :=
  ⟨blk_first w .u32 ta a _ _, blk_second w .u32 tb b _ _, blk_third w .u32 tc c _ _, below_three w _ _ _⟩
theorem four_boxes (w : World) (a b c d : List Int) (ta tb tc td : TypeId) :
    IntBlk ((((w.alloc (.cells (cellsOf .u32 a) ta)).alloc (.cells (cellsOf .u32 b) tb)).alloc (.cells (cellsOf .u32 c) tc)).alloc (.cells (cellsOf .u32 d) td)) w.heap.size .u32 ta a ∧ IntBlk ((((w.alloc (.cells (cellsOf .u32 a) ta)).alloc (.cells (cellsOf .u32 b) tb)).alloc (.cells (cellsOf .u32 c) tc)).alloc (.cells (cellsOf .u32 d) td)) (w.heap.size + 1) .u32 tb b ∧
    IntBlk ((((w.alloc (.cells (cellsOf .u32 a) ta)).alloc (.cells (cellsOf .u32 b) tb)).alloc (.cells (cellsOf .u32 c) tc)).alloc (.cells (cellsOf .u32 d) td)) (w.heap.size + 1 + 1) .u32 tc c ∧ IntBlk ((((w.alloc (.cells (cellsOf .u32 a) ta)).alloc (.cells (cellsOf .u32 b) tb)).alloc (.cells (cellsOf .u32 c) tc)).alloc (.cells (cellsOf .u32 d) td)) (w.heap.size + 1 + 1 + 1) .u32 td d ∧
    Below w.heap.size w ((((w.alloc (.cells (cellsOf .u32 a) ta)).alloc (.cells (cellsOf .u32 b) tb)).alloc (.cells (cellsOf .u32 c) tc)).alloc (.cells (cellsOf .u32 d) td)) :=
  ⟨(blk_first w .u32 ta a _ _).alloc _, (blk_second w .u32 tb b _ _).alloc _, (blk_third w .u32 tc c _ _).alloc _, blk_fourth w .u32 td d _ _ _, below_four w _ _ _ _⟩
end Go.Proofs.YtfjbehobpkmjbaaDoor

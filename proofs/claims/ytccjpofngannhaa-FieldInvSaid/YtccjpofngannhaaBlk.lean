/- A block of memory that holds a list of integers: reading, writing, keeping. No condition. -/
import Derived.Below
import Derived.Laws.Rows
import Derived.IntWalk
namespace Go.Proofs.Ytccjpofngannhaa
open Go Go.RowKit

/-- Block B is an array of integers of kind k, type t: l. -/
def IntBlk (w : World) (B : Nat) (k : IntKind) (t : TypeId) (l : List Int) : Prop := w.heap[B]? = some (.cells (l.map (Value.int k)).toArray t (0, 0))

theorem IntBlk.lt {w : World} {B : Nat} {k : IntKind} {t : TypeId} {l : List Int} (h : IntBlk w B k t l) : B < w.heap.size := by
  rcases Nat.lt_or_ge B w.heap.size with h' | h'
  · exact h'
  · unfold IntBlk at h; simp [Array.getElem?_eq_none h'] at h
theorem IntBlk.cell {w : World} {B : Nat} {k : IntKind} {t : TypeId} {l : List Int} (h : IntBlk w B k t l) {i : Nat} (hi : i < l.length) :
    w.cell? ⟨B, i, none⟩ = some (.int k (l.getD i 0)) := by
  rw [cell_of_row w B i _ t (0, 0) h]; simp [List.getD_eq_getElem?_getD, hi]
theorem IntBlk.free {w : World} {B : Nat} {k : IntKind} {t : TypeId} {l : List Int} (h : IntBlk w B k t l) (i : Nat) : w.frozen? ⟨B, i, none⟩ = false :=
  frozen_of_row w B i _ t h
theorem IntBlk.set {w : World} {B : Nat} {k : IntKind} {t : TypeId} {l : List Int} (h : IntBlk w B k t l) (i : Nat) (v : Int) :
    IntBlk (w.setCell ⟨B, i, none⟩ (.int k v)) B k t (l.set i v) := by
  have hlt := h.lt
  have h' : w.heap[B] = .cells (l.map (Value.int k)).toArray t (0, 0) := by unfold IntBlk at h; simpa [Array.getElem?_eq_getElem hlt] using h
  show (w.heap.modify B _)[B]? = _
  rw [Array.getElem?_eq_getElem (by simpa using hlt), Array.getElem_modify_self, h']
  simp [List.map_set]
theorem IntBlk.drew {w : World} {B : Nat} {k : IntKind} {t : TypeId} {l : List Int} (h : IntBlk w B k t l) : IntBlk w.drew B k t l := h
theorem IntBlk.alloc {w : World} {B : Nat} {k : IntKind} {t : TypeId} {l : List Int} (h : IntBlk w B k t l) (o : Obj) : IntBlk (w.alloc o) B k t l := by
  unfold IntBlk; rw [heap_alloc_old _ _ _ h.lt]; exact h
theorem IntBlk.other {w : World} {B : Nat} {k : IntKind} {t : TypeId} {l : List Int} (h : IntBlk w B k t l) {a : Addr} (ha : a.block ≠ B) (v : Value) : IntBlk (w.setCell a v) B k t l := by
  unfold IntBlk; rw [heap_setCell_other _ _ _ _ (fun e => ha e.symm)]; exact h
theorem IntBlk.below {w w' : World} {B M : Nat} {k : IntKind} {t : TypeId} {l : List Int} (h : IntBlk w B k t l) (hb : Below M w w') (hM : B < M) : IntBlk w' B k t l := by
  unfold IntBlk; rw [hb.block B hM]; exact h
theorem IntBlk.new (w : World) (k : IntKind) (t : TypeId) (l : List Int) : IntBlk (w.alloc (.cells (l.map (Value.int k)).toArray t)) w.heap.size k t l := heap_alloc_new _ _
end Go.Proofs.Ytccjpofngannhaa

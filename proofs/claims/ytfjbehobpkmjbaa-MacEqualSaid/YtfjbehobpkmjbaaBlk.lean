/- A block of memory that holds a list of integers: reading, writing, keeping. No condition. -/
import Derived.Below
import Derived.Laws.Rows
import Derived.Laws.Tables
import Derived.IntWalk
namespace Go.Proofs.Ytfjbehobpkmjbaa
open Go Go.RowKit

/-- An array of integers as a value's cells. -/
def cellsOf (k : IntKind) (l : List Int) : Array Value := (l.map (Value.int k)).toArray
theorem cellsOf_get (k : IntKind) (l : List Int) {i : Nat} (h : i < l.length) : (cellsOf k l)[i]? = some (.int k (l.getD i 0)) := by
  simp [cellsOf, List.getD_eq_getElem?_getD, h]
theorem cellsOf_size (k : IntKind) (l : List Int) : (cellsOf k l).size = l.length := by simp [cellsOf]
theorem cellsOf_one (k : IntKind) (l : List Int) : (cellsOf k l).all (·.oneCell') = true := by
  simp [cellsOf, Value.oneCell']

theorem cellsOf_set (k : IntKind) (l : List Int) (i : Nat) (v : Int) : (cellsOf k l).setIfInBounds i (.int k v) = cellsOf k (l.set i v) := by
  simp [cellsOf, List.map_set]
/-- Block B is an array of integers of kind k, type t: l. -/
def IntBlk (w : World) (B : Nat) (k : IntKind) (t : TypeId) (l : List Int) : Prop := w.heap[B]? = some (.cells (cellsOf k l) t (0, 0))

theorem IntBlk.lt {w : World} {B : Nat} {k : IntKind} {t : TypeId} {l : List Int} (h : IntBlk w B k t l) : B < w.heap.size := by
  rcases Nat.lt_or_ge B w.heap.size with h' | h'
  · exact h'
  · unfold IntBlk at h; simp [Array.getElem?_eq_none h'] at h
theorem IntBlk.cell {w : World} {B : Nat} {k : IntKind} {t : TypeId} {l : List Int} (h : IntBlk w B k t l) {i : Nat} (hi : i < l.length) :
    w.cell? ⟨B, i, none⟩ = some (.int k (l.getD i 0)) := by
  rw [cell_of_row w B i _ t (0, 0) h]; exact cellsOf_get k l hi
theorem IntBlk.free {w : World} {B : Nat} {k : IntKind} {t : TypeId} {l : List Int} (h : IntBlk w B k t l) (i : Nat) : w.frozen? ⟨B, i, none⟩ = false :=
  frozen_of_row w B i _ t h
theorem IntBlk.set {w : World} {B : Nat} {k : IntKind} {t : TypeId} {l : List Int} (h : IntBlk w B k t l) (i : Nat) (v : Int) :
    IntBlk (w.setCell ⟨B, i, none⟩ (.int k v)) B k t (l.set i v) := by
  have hlt := h.lt
  have h' : w.heap[B] = .cells (cellsOf k l) t (0, 0) := by unfold IntBlk at h; simpa [Array.getElem?_eq_getElem hlt] using h
  show (w.heap.modify B _)[B]? = _
  rw [Array.getElem?_eq_getElem (by simpa using hlt), Array.getElem_modify_self, h']
  simp [cellsOf, List.map_set]
theorem IntBlk.drew {w : World} {B : Nat} {k : IntKind} {t : TypeId} {l : List Int} (h : IntBlk w B k t l) : IntBlk w.drew B k t l := h
theorem IntBlk.alloc {w : World} {B : Nat} {k : IntKind} {t : TypeId} {l : List Int} (h : IntBlk w B k t l) (o : Obj) : IntBlk (w.alloc o) B k t l := by
  unfold IntBlk; rw [heap_alloc_old _ _ _ h.lt]; exact h
theorem IntBlk.other {w : World} {B : Nat} {k : IntKind} {t : TypeId} {l : List Int} (h : IntBlk w B k t l) {a : Addr} (ha : a.block ≠ B) (v : Value) : IntBlk (w.setCell a v) B k t l := by
  unfold IntBlk; rw [heap_setCell_other _ _ _ _ (fun e => ha e.symm)]; exact h
theorem IntBlk.below {w w' : World} {B M : Nat} {k : IntKind} {t : TypeId} {l : List Int} (h : IntBlk w B k t l) (hb : Below M w w') (hM : B < M) : IntBlk w' B k t l := by
  unfold IntBlk; rw [hb.block B hM]; exact h
theorem IntBlk.new (w : World) (k : IntKind) (t : TypeId) (l : List Int) : IntBlk (w.alloc (.cells (cellsOf k l) t)) w.heap.size k t l := heap_alloc_new _ _
theorem IntBlk.setRow {w : World} {B : Nat} {k : IntKind} {t : TypeId} {l : List Int} (h : IntBlk w B k t l) (k' : IntKind) (l' : List Int) : IntBlk (w.setRow B (cellsOf k' l')) B k' t l' :=
  setRow_heap w B _ _ t (0, 0) h
theorem IntBlk.otherRow {w : World} {B C : Nat} {k : IntKind} {t : TypeId} {l : List Int} (h : IntBlk w B k t l) (hc : B ≠ C) (cs : Array Value) : IntBlk (w.setRow C cs) B k t l := by
  unfold IntBlk; rw [setRow_other w C B cs hc]; exact h
theorem below_setRow {M : Nat} {a w : World} (h : Below M a w) {g : Nat} (hg : M ≤ g) (cs : Array Value) : Below M a (w.setRow g cs) :=
  h.trans ⟨rfl, rfl, rfl, by simp, fun k hk => setRow_other w g k cs (by omega)⟩
/-- A new block on top of what a call has left. -/
theorem below_call {M : Nat} {a w w' : World} (h : Below M a w) (hw : Below w.heap.size w w') (hM : M ≤ w.heap.size) : Below M a w' := h.trans (hw.mono hM)
/-- The blocks that a call has just made, by their order. -/
theorem blk_first (w : World) (k : IntKind) (t : TypeId) (l : List Int) (o1 o2 : Obj) : IntBlk (((w.alloc (.cells (cellsOf k l) t)).alloc o1).alloc o2) w.heap.size k t l :=
  ((IntBlk.new w k t l).alloc o1).alloc o2
theorem blk_two (w : World) (k : IntKind) (t : TypeId) (l : List Int) (o0 : Obj) : IntBlk ((w.alloc o0).alloc (.cells (cellsOf k l) t)) (w.heap.size + 1) k t l := by
  have h := IntBlk.new (w.alloc o0) k t l
  rw [World.size_alloc] at h; exact h
theorem blk_second (w : World) (k : IntKind) (t : TypeId) (l : List Int) (o0 o2 : Obj) : IntBlk (((w.alloc o0).alloc (.cells (cellsOf k l) t)).alloc o2) (w.heap.size + 1) k t l := by
  have h := (IntBlk.new (w.alloc o0) k t l).alloc o2
  rw [World.size_alloc] at h; exact h
theorem blk_third (w : World) (k : IntKind) (t : TypeId) (l : List Int) (o0 o1 : Obj) : IntBlk (((w.alloc o0).alloc o1).alloc (.cells (cellsOf k l) t)) (w.heap.size + 1 + 1) k t l := by
  have h := IntBlk.new ((w.alloc o0).alloc o1) k t l
  rw [World.size_alloc, World.size_alloc] at h; exact h
theorem blk_fourth (w : World) (k : IntKind) (t : TypeId) (l : List Int) (o0 o1 o2 : Obj) : IntBlk ((((w.alloc o0).alloc o1).alloc o2).alloc (.cells (cellsOf k l) t)) (w.heap.size + 1 + 1 + 1) k t l := by
  have h := IntBlk.new (((w.alloc o0).alloc o1).alloc o2) k t l
  rw [World.size_alloc, World.size_alloc, World.size_alloc] at h; exact h
theorem blk_fifth (w : World) (k : IntKind) (t : TypeId) (l : List Int) (o0 o1 o2 o3 : Obj) : IntBlk (((((w.alloc o0).alloc o1).alloc o2).alloc o3).alloc (.cells (cellsOf k l) t)) (w.heap.size + 1 + 1 + 1 + 1) k t l := by
  have h := IntBlk.new ((((w.alloc o0).alloc o1).alloc o2).alloc o3) k t l
  rw [World.size_alloc, World.size_alloc, World.size_alloc, World.size_alloc] at h; exact h
theorem below_two (w : World) (o0 o1 : Obj) : Below w.heap.size w ((w.alloc o0).alloc o1) :=
  ((Below.refl _ _).alloc (Nat.le_refl _) _).alloc (by simp) _
theorem below_three (w : World) (o0 o1 o2 : Obj) : Below w.heap.size w (((w.alloc o0).alloc o1).alloc o2) :=
  (below_two w o0 o1).alloc (by simp; omega) _
theorem below_four (w : World) (o0 o1 o2 o3 : Obj) : Below w.heap.size w ((((w.alloc o0).alloc o1).alloc o2).alloc o3) :=
  (below_three w o0 o1 o2).alloc (by simp; omega) _
end Go.Proofs.Ytfjbehobpkmjbaa

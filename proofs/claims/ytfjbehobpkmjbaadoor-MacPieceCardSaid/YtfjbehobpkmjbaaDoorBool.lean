/- A block of one bool; blocks of cells while a loop's record is turned. No condition. -/
import Derived.Test.YtfjbehobpkmjbaaDoorBlk
import Derived.RangeFuncNested
namespace Go.Proofs.YtfjbehobpkmjbaaDoor
open Go Go.RowKit

/-- A block that holds one bool. -/
def BoolBlk (w : World) (B : Nat) (t : TypeId) (x : Bool) : Prop := w.heap[B]? = some (.cells #[.bool x] t (0, 0))
theorem BoolBlk.lt {w : World} {B : Nat} {t : TypeId} {x : Bool} (h : BoolBlk w B t x) : B < w.heap.size := (Array.getElem?_eq_some_iff.1 h).1
theorem BoolBlk.below {w w' : World} {B M : Nat} {t : TypeId} {x : Bool} (h : BoolBlk w B t x) (hb : Below M w w') (hM : B < M) : BoolBlk w' B t x := by
  unfold BoolBlk; rw [hb.block B hM]; exact h

theorem BoolBlk.alloc {w : World} {B : Nat} {t : TypeId} {x : Bool} (h : BoolBlk w B t x) (o : Obj) : BoolBlk (w.alloc o) B t x := by
  unfold BoolBlk; rw [Below.heap_alloc _ _ _ h.lt]; exact h
theorem BoolBlk.other {w : World} {B : Nat} {t : TypeId} {x : Bool} (h : BoolBlk w B t x) {a : Addr} (ha : a.block ≠ B) (v : Value) : BoolBlk (w.setCell a v) B t x := by
  unfold BoolBlk; rw [Below.heap_setCell _ _ _ _ (fun e => ha e.symm)]; exact h
/-- A block of cells abides a turn of what is no cells. -/
theorem cells_turn {W : World} {B l : Nat} {c : Array Value} {t : TypeId} {o o' : Obj} (h : W.heap[B]? = some (.cells c t (0, 0))) (ho : W.heap[l]? = some o) (hc : o.isCells = false) : (W.putObj l o').heap[B]? = some (.cells c t (0, 0)) := by
  refine (World.putObj_heap_other (fun e => ?_)).trans h
  subst e; rw [h] at ho; cases ho; simp [Obj.isCells] at hc
theorem below_turn {M : Nat} {w W : World} {l : Nat} (o' : Obj) (h : Below M w W) (hl : M ≤ l) : Below M w (W.putObj l o') :=
  h.trans ⟨rfl, rfl, rfl, by simp, fun k hk => World.putObj_heap_other (by omega)⟩
end Go.Proofs.YtfjbehobpkmjbaaDoor

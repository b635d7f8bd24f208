/- Boxes of one value: made, written. Conditions: as each says. -/
import Derived.Test.YtbdldnhpgpjnoaaDoorTrLaw
namespace Go.Proofs.YtbdldnhpgpjnoaaDoor
open Go.ChangeShapes Go.WideShapes Go.ChangeAt Go.RowKit
set_option linter.unusedVariables false
/-- A box and what it holds. -/
def Bx (W : World) (B : Nat) (t : TypeId) (v : Value) : Prop := W.heap[B]? = some (.cells #[v] t (0, 0))
section
variable {W W' : World} {B M : Nat} {t : TypeId} {v u : Value}
theorem Bx.lt (h : Bx W B t v) : B < W.heap.size := (Array.getElem?_eq_some_iff.1 h).1
theorem Bx.cell (h : Bx W B t v) : W.cell? ⟨B, 0, none⟩ = some v := cell_of_one h
theorem Bx.free (h : Bx W B t v) : W.frozen? ⟨B, 0, none⟩ = false := free_of_one h
theorem Bx.keep (h : Bx W B t v) (hb : W'.heap[B]? = W.heap[B]?) : Bx W' B t v := hb.trans h
theorem Bx.below (h : Bx W B t v) (hb : Below W.heap.size W W') : Bx W' B t v := h.keep (hb.block B h.lt)
theorem Bx.belowM (h : Bx W B t v) (hb : Below M W W') (hB : B < M) : Bx W' B t v := h.keep (hb.block B hB)
theorem Bx.but {C : Nat} (h : Bx W B t v) (hb : But C W W') (hne : B ≠ C) : Bx W' B t v := h.keep (hb.same B h.lt hne)
theorem Bx.set (h : Bx W B t v) (x : Value) : Bx (W.setCell ⟨B, 0, none⟩ x) B t x := one_setCell h
theorem Bx.other {C : Nat} (h : Bx W B t v) (hne : B ≠ C) (x : Value) : Bx (W.setCell ⟨C, 0, none⟩ x) B t v := (Below.heap_setCell W ⟨C, 0, none⟩ x B hne).trans h
theorem Bx.new (W : World) (t : TypeId) (v : Value) : Bx (W.alloc (.cells #[v] t)) W.heap.size t v := heap_alloc_new W _
theorem size_setCell (W : World) (a : Addr) (x : Value) : (W.setCell a x).heap.size = W.heap.size := by simp [World.setCell]
end
section
variable {ops : Array Oper} {rest : List Oper} {o : Oper} {a : Act} {w : World} {Q : Exit → Act → World → Prop}
theorem wpList_alloc_int (hw : Region.wanted o (yielded ops a.tmps) = true) (ho : o.op = .alloc 3) (S : Nat) (hS : w.heap.size = S)
    (h : ∀ w', Bx w' S 3 (.int .i64 0) → Below S w w' → w'.heap.size = S + 1 → wpList Tryd.prog ops Q rest (a.put o.dst (.pointer (some ⟨S, 0, none⟩))) w') : wpList Tryd.prog ops Q (o :: rest) a w :=
  wanted_step hw fun K hK => by
    subst hS
    have h2 := h (w.alloc (.cells #[.int .i64 0] 3)) (Bx.new _ _ _) ((Below.refl _ _).alloc (Nat.le_refl _) _) (by simp)
    unfold Oper.wp execOp
    simp only [ho]
    simp [go_sem]
    exact hK _ _ h2
theorem wpList_box_int (hw : Region.wanted o (yielded ops a.tmps) = true) (x : Operand) (ho : o.op = .box 3 x) (z : Int) (hx : a.eval x = .int .i64 z) (S : Nat) (hS : w.heap.size = S)
    (h : ∀ w', Bx w' S 3 (.int .i64 z) → Below S w w' → w'.heap.size = S + 1 → wpList Tryd.prog ops Q rest (a.put o.dst (.pointer (some ⟨S, 0, none⟩))) w') : wpList Tryd.prog ops Q (o :: rest) a w :=
  wanted_step hw fun K hK => by
    subst hS
    have h2 := h (w.alloc (.cells #[.int .i64 z] 3)) (Bx.new _ _ _) ((Below.refl _ _).alloc (Nat.le_refl _) _) (by simp)
    unfold Oper.wp execOp
    simp only [ho, hx]
    simp [go_sem]
    exact hK _ _ h2
theorem wpList_store_int (hw : Region.wanted o (yielded ops a.tmps) = true) (x y : Operand) (ho : o.op = .store 3 x y) (hd : o.dst = none) (B : Nat) (hx : a.eval x = .pointer (some ⟨B, 0, none⟩)) (z : Int) (hy : a.eval y = .int .i64 z) (t : TypeId) (u : Value) (hB : Bx w B t u)
    (h : ∀ w', Bx w' B t (.int .i64 z) → But B w w' → w'.heap.size = w.heap.size → wpList Tryd.prog ops Q rest a w') : wpList Tryd.prog ops Q (o :: rest) a w :=
  wanted_step hw fun K hK => by
    have c1 := hB.cell; have f1 := hB.free
    have h2 := h (w.setCell ⟨B, 0, none⟩ (.int .i64 z)) (hB.set _) (But.setCell B 0 w _) (size_setCell _ _ _)
    unfold Oper.wp execOp
    simp only [ho, hx, hy]
    simp [go_sem, c1, f1]
    refine hK _ _ ?_
    simpa [hd] using h2
theorem wpList_alloc_bool (hw : Region.wanted o (yielded ops a.tmps) = true) (ho : o.op = .alloc 4) (S : Nat) (hS : w.heap.size = S)
    (h : ∀ w', Bx w' S 4 (.bool false) → Below S w w' → w'.heap.size = S + 1 → wpList Tryd.prog ops Q rest (a.put o.dst (.pointer (some ⟨S, 0, none⟩))) w') : wpList Tryd.prog ops Q (o :: rest) a w :=
  wanted_step hw fun K hK => by
    subst hS
    have h2 := h (w.alloc (.cells #[.bool false] 4)) (Bx.new _ _ _) ((Below.refl _ _).alloc (Nat.le_refl _) _) (by simp)
    unfold Oper.wp execOp
    simp only [ho]
    simp [go_sem]
    exact hK _ _ h2
theorem wpList_box_bool (hw : Region.wanted o (yielded ops a.tmps) = true) (x : Operand) (ho : o.op = .box 4 x) (z : Bool) (hx : a.eval x = .bool z) (S : Nat) (hS : w.heap.size = S)
    (h : ∀ w', Bx w' S 4 (.bool z) → Below S w w' → w'.heap.size = S + 1 → wpList Tryd.prog ops Q rest (a.put o.dst (.pointer (some ⟨S, 0, none⟩))) w') : wpList Tryd.prog ops Q (o :: rest) a w :=
  wanted_step hw fun K hK => by
    subst hS
    have h2 := h (w.alloc (.cells #[.bool z] 4)) (Bx.new _ _ _) ((Below.refl _ _).alloc (Nat.le_refl _) _) (by simp)
    unfold Oper.wp execOp
    simp only [ho, hx]
    simp [go_sem]
    exact hK _ _ h2
theorem wpList_store_bool (hw : Region.wanted o (yielded ops a.tmps) = true) (x y : Operand) (ho : o.op = .store 4 x y) (hd : o.dst = none) (B : Nat) (hx : a.eval x = .pointer (some ⟨B, 0, none⟩)) (z : Bool) (hy : a.eval y = .bool z) (t : TypeId) (u : Value) (hB : Bx w B t u)
    (h : ∀ w', Bx w' B t (.bool z) → But B w w' → w'.heap.size = w.heap.size → wpList Tryd.prog ops Q rest a w') : wpList Tryd.prog ops Q (o :: rest) a w :=
  wanted_step hw fun K hK => by
    have c1 := hB.cell; have f1 := hB.free
    have h2 := h (w.setCell ⟨B, 0, none⟩ (.bool z)) (hB.set _) (But.setCell B 0 w _) (size_setCell _ _ _)
    unfold Oper.wp execOp
    simp only [ho, hx, hy]
    simp [go_sem, c1, f1]
    refine hK _ _ ?_
    simpa [hd] using h2
theorem wpList_alloc_ints (hw : Region.wanted o (yielded ops a.tmps) = true) (ho : o.op = .alloc 39) (S : Nat) (hS : w.heap.size = S)
    (h : ∀ w', Bx w' S 39 (.slice none 0 0) → Below S w w' → w'.heap.size = S + 1 → wpList Tryd.prog ops Q rest (a.put o.dst (.pointer (some ⟨S, 0, none⟩))) w') : wpList Tryd.prog ops Q (o :: rest) a w :=
  wanted_step hw fun K hK => by
    subst hS
    have h2 := h (w.alloc (.cells #[.slice none 0 0] 39)) (Bx.new _ _ _) ((Below.refl _ _).alloc (Nat.le_refl _) _) (by simp)
    unfold Oper.wp execOp
    simp only [ho]
    simp [go_sem]
    exact hK _ _ h2
theorem wpList_box_ints (hw : Region.wanted o (yielded ops a.tmps) = true) (x : Operand) (ho : o.op = .box 39 x) (q : Option Addr) (n c : Nat) (hx : a.eval x = .slice q n c) (S : Nat) (hS : w.heap.size = S)
    (h : ∀ w', Bx w' S 39 (.slice q n c) → Below S w w' → w'.heap.size = S + 1 → wpList Tryd.prog ops Q rest (a.put o.dst (.pointer (some ⟨S, 0, none⟩))) w') : wpList Tryd.prog ops Q (o :: rest) a w :=
  wanted_step hw fun K hK => by
    subst hS
    have h2 := h (w.alloc (.cells #[.slice q n c] 39)) (Bx.new _ _ _) ((Below.refl _ _).alloc (Nat.le_refl _) _) (by simp)
    unfold Oper.wp execOp
    simp only [ho, hx]
    simp [go_sem]
    exact hK _ _ h2
theorem wpList_store_ints (hw : Region.wanted o (yielded ops a.tmps) = true) (x y : Operand) (ho : o.op = .store 39 x y) (hd : o.dst = none) (B : Nat) (hx : a.eval x = .pointer (some ⟨B, 0, none⟩)) (q : Option Addr) (n c : Nat) (hy : a.eval y = .slice q n c) (t : TypeId) (u : Value) (hB : Bx w B t u)
    (h : ∀ w', Bx w' B t (.slice q n c) → But B w w' → w'.heap.size = w.heap.size → wpList Tryd.prog ops Q rest a w') : wpList Tryd.prog ops Q (o :: rest) a w :=
  wanted_step hw fun K hK => by
    have c1 := hB.cell; have f1 := hB.free
    have h2 := h (w.setCell ⟨B, 0, none⟩ (.slice q n c)) (hB.set _) (But.setCell B 0 w _) (size_setCell _ _ _)
    unfold Oper.wp execOp
    simp only [ho, hx, hy]
    simp [go_sem, c1, f1]
    refine hK _ _ ?_
    simpa [hd] using h2
theorem wpList_alloc_sums (hw : Region.wanted o (yielded ops a.tmps) = true) (ho : o.op = .alloc 34) (S : Nat) (hS : w.heap.size = S)
    (h : ∀ w', Bx w' S 34 (.slice none 0 0) → Below S w w' → w'.heap.size = S + 1 → wpList Tryd.prog ops Q rest (a.put o.dst (.pointer (some ⟨S, 0, none⟩))) w') : wpList Tryd.prog ops Q (o :: rest) a w :=
  wanted_step hw fun K hK => by
    subst hS
    have h2 := h (w.alloc (.cells #[.slice none 0 0] 34)) (Bx.new _ _ _) ((Below.refl _ _).alloc (Nat.le_refl _) _) (by simp)
    unfold Oper.wp execOp
    simp only [ho]
    simp [go_sem]
    exact hK _ _ h2
theorem wpList_box_sums (hw : Region.wanted o (yielded ops a.tmps) = true) (x : Operand) (ho : o.op = .box 34 x) (q : Option Addr) (n c : Nat) (hx : a.eval x = .slice q n c) (S : Nat) (hS : w.heap.size = S)
    (h : ∀ w', Bx w' S 34 (.slice q n c) → Below S w w' → w'.heap.size = S + 1 → wpList Tryd.prog ops Q rest (a.put o.dst (.pointer (some ⟨S, 0, none⟩))) w') : wpList Tryd.prog ops Q (o :: rest) a w :=
  wanted_step hw fun K hK => by
    subst hS
    have h2 := h (w.alloc (.cells #[.slice q n c] 34)) (Bx.new _ _ _) ((Below.refl _ _).alloc (Nat.le_refl _) _) (by simp)
    unfold Oper.wp execOp
    simp only [ho, hx]
    simp [go_sem]
    exact hK _ _ h2
theorem wpList_store_sums (hw : Region.wanted o (yielded ops a.tmps) = true) (x y : Operand) (ho : o.op = .store 34 x y) (hd : o.dst = none) (B : Nat) (hx : a.eval x = .pointer (some ⟨B, 0, none⟩)) (q : Option Addr) (n c : Nat) (hy : a.eval y = .slice q n c) (t : TypeId) (u : Value) (hB : Bx w B t u)
    (h : ∀ w', Bx w' B t (.slice q n c) → But B w w' → w'.heap.size = w.heap.size → wpList Tryd.prog ops Q rest a w') : wpList Tryd.prog ops Q (o :: rest) a w :=
  wanted_step hw fun K hK => by
    have c1 := hB.cell; have f1 := hB.free
    have h2 := h (w.setCell ⟨B, 0, none⟩ (.slice q n c)) (hB.set _) (But.setCell B 0 w _) (size_setCell _ _ _)
    unfold Oper.wp execOp
    simp only [ho, hx, hy]
    simp [go_sem, c1, f1]
    refine hK _ _ ?_
    simpa [hd] using h2
theorem wpList_alloc_bytes (hw : Region.wanted o (yielded ops a.tmps) = true) (ho : o.op = .alloc 22) (S : Nat) (hS : w.heap.size = S)
    (h : ∀ w', Bx w' S 22 (.slice none 0 0) → Below S w w' → w'.heap.size = S + 1 → wpList Tryd.prog ops Q rest (a.put o.dst (.pointer (some ⟨S, 0, none⟩))) w') : wpList Tryd.prog ops Q (o :: rest) a w :=
  wanted_step hw fun K hK => by
    subst hS
    have h2 := h (w.alloc (.cells #[.slice none 0 0] 22)) (Bx.new _ _ _) ((Below.refl _ _).alloc (Nat.le_refl _) _) (by simp)
    unfold Oper.wp execOp
    simp only [ho]
    simp [go_sem]
    exact hK _ _ h2
theorem wpList_box_bytes (hw : Region.wanted o (yielded ops a.tmps) = true) (x : Operand) (ho : o.op = .box 22 x) (q : Option Addr) (n c : Nat) (hx : a.eval x = .slice q n c) (S : Nat) (hS : w.heap.size = S)
    (h : ∀ w', Bx w' S 22 (.slice q n c) → Below S w w' → w'.heap.size = S + 1 → wpList Tryd.prog ops Q rest (a.put o.dst (.pointer (some ⟨S, 0, none⟩))) w') : wpList Tryd.prog ops Q (o :: rest) a w :=
  wanted_step hw fun K hK => by
    subst hS
    have h2 := h (w.alloc (.cells #[.slice q n c] 22)) (Bx.new _ _ _) ((Below.refl _ _).alloc (Nat.le_refl _) _) (by simp)
    unfold Oper.wp execOp
    simp only [ho, hx]
    simp [go_sem]
    exact hK _ _ h2
theorem wpList_store_bytes (hw : Region.wanted o (yielded ops a.tmps) = true) (x y : Operand) (ho : o.op = .store 22 x y) (hd : o.dst = none) (B : Nat) (hx : a.eval x = .pointer (some ⟨B, 0, none⟩)) (q : Option Addr) (n c : Nat) (hy : a.eval y = .slice q n c) (t : TypeId) (u : Value) (hB : Bx w B t u)
    (h : ∀ w', Bx w' B t (.slice q n c) → But B w w' → w'.heap.size = w.heap.size → wpList Tryd.prog ops Q rest a w') : wpList Tryd.prog ops Q (o :: rest) a w :=
  wanted_step hw fun K hK => by
    have c1 := hB.cell; have f1 := hB.free
    have h2 := h (w.setCell ⟨B, 0, none⟩ (.slice q n c)) (hB.set _) (But.setCell B 0 w _) (size_setCell _ _ _)
    unfold Oper.wp execOp
    simp only [ho, hx, hy]
    simp [go_sem, c1, f1]
    refine hK _ _ ?_
    simpa [hd] using h2
end
end Go.Proofs.YtbdldnhpgpjnoaaDoor
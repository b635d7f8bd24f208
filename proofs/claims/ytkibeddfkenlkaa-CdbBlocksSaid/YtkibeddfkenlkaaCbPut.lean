/- Operations laid into commands in boxes; structs made and laid in drawn regions. Conditions: as each says. -/
import Derived.Test.YtkibeddfkenlkaaCbTk
namespace Go.Proofs.Ytkibeddfkenlkaa
open Go.ChangeShapes Go.WideShapes Go.ChangeAt Go.RowKit
set_option linter.unusedVariables false
set_option linter.unusedSimpArgs false
theorem cmA_op (q : Option Addr) (n c : Nat) (x : CmdOf) (r : ROp) : ((((((cmA q n c x).setIfInBounds 5 (.int .i64 r.op)).setIfInBounds 6 (.int .i64 r.who)).setIfInBounds 7 (.int .i64 r.key)).setIfInBounds 8 (.int .i64 r.new)).setIfInBounds 9 (.int .i64 r.ty)).setIfInBounds 10 (.bool r.s) = cmA q n c { x with o := r } := rfl
theorem cmop_put {w : World} {O : Nat} {q : Option Addr} {n c : Nat} {x : CmdOf} (h : BoxA w O cmT (cmA q n c x)) (r : ROp) : BoxA (w.setCells O 5 (ropC r)) O cmT (cmA q n c { x with o := r }) ∧ Keeps (fun j => j = O) w (w.setCells O 5 (ropC r)) ∧ (w.setCells O 5 (ropC r)).heap.size = w.heap.size := by
  have e : w.setCells O 5 (ropC r) = (((((w.setCell ⟨O, 5, none⟩ (.int .i64 r.op)).setCell ⟨O, 6, none⟩ (.int .i64 r.who)).setCell ⟨O, 7, none⟩ (.int .i64 r.key)).setCell ⟨O, 8, none⟩ (.int .i64 r.new)).setCell ⟨O, 9, none⟩ (.int .i64 r.ty)).setCell ⟨O, 10, none⟩ (.bool r.s) := rfl
  rw [e]
  refine ⟨?_, ?_, ?_⟩
  · have := (((((h.set 5 (.int .i64 r.op)).set 6 (.int .i64 r.who)).set 7 (.int .i64 r.key)).set 8 (.int .i64 r.new)).set 9 (.int .i64 r.ty)).set 10 (.bool r.s)
    rw [cmA_op] at this; exact this
  · exact ((((((Keeps.refl (fun j => j = O) w).setCell rfl 5 _).setCell rfl 6 _).setCell rfl 7 _).setCell rfl 8 _).setCell rfl 9 _).setCell rfl 10 _
  · simp [World.setCell]
theorem cmop_there {w : World} {O : Nat} {q : Option Addr} {n c : Nat} {x : CmdOf} (h : BoxA w O cmT (cmA q n c x)) (r : ROp) : w.there O 5 (ropA r).size := fun j hj => by
  have hj6 : j < 6 := hj
  refine ⟨?_, h.free _⟩
  have e : w.cell? ⟨O, 5 + j, none⟩ = (cmA q n c x)[5 + j]? := h.cell (5 + j)
  rw [e, Array.getElem?_eq_getElem (by rw [cmA_size]; omega)]; rfl
section
variable {ops : Array Oper} {rest : List Oper} {o : Oper} {a : Act} {w : World} {Q : Exit → Act → World → Prop}
theorem wpList_cmop_put (hgd : o.guard = none) (x y : Operand) (ho : o.op = .store roT x y) (hd : o.dst = none) (O : Nat) (q : Option Addr) (n c : Nat) (z : CmdOf) (r : ROp) (hx : a.eval x = .pointer (some ⟨O, 5, none⟩)) (hy : a.eval y = .agg (ropA r)) (hO : BoxA w O cmT (cmA q n c z))
    (h : ∀ w', BoxA w' O cmT (cmA q n c { z with o := r }) → Keeps (fun j => j = O) w w' → w'.heap.size = w.heap.size → wpList Try.prog ops Q rest a w') : wpList Try.prog ops Q (o :: rest) a w := by
  obtain ⟨h1, h2, h3⟩ := cmop_put hO r
  have hh := h _ h1 h2 h3
  refine wpList_store_mid hgd roT x y ho O 5 (ropA r) hx hy (cmop_there hO r) (rowOp.size) (ropA_one r) ?_
  have e : a.put o.dst undef = a := by rw [hd]; rfl
  rw [e]; exact hh
theorem done_cmop_put {K : Value → World → Prop} (x y : Operand) (ho : o.op = .store roT x y) (O : Nat) (q : Option Addr) (n c : Nat) (z : CmdOf) (r : ROp) (hx : a.eval x = .pointer (some ⟨O, 5, none⟩)) (hy : a.eval y = .agg (ropA r)) (hO : BoxA w O cmT (cmA q n c z))
    (h : ∀ w', BoxA w' O cmT (cmA q n c { z with o := r }) → Keeps (fun j => j = O) w w' → w'.heap.size = w.heap.size → K undef w') : doneAt Try.prog o a w K := by
  obtain ⟨h1, h2, h3⟩ := cmop_put hO r
  have hh := h _ h1 h2 h3
  unfold doneAt execOp
  simp only [ho, hx, hy, Instr.storeAt, Instr.sureAddr, Sem.run_bind, Sem.run_pure, Result.andThen_ok, run_storeVar_mid w O 5 roT (ropA r) (cmop_there hO r) rowOp.size (ropA_one r)]
  exact hh
theorem done_boxA_new {K : Value → World → Prop} {T : TypeId} {sz : Nat} {z : Array Value} (R : IsRow T sz z) (ho : o.op = .alloc T)
    (h : ∀ w', BoxA w' w.heap.size T z → Below w.heap.size w w' → w'.heap.size = w.heap.size + 1 → K (.pointer (some ⟨w.heap.size, 0, none⟩)) w') : doneAt Try.prog o a w K := by
  have e := R.zero_run w
  have hh := h _ (BoxA.alloc w T z) ((Below.refl _ w).alloc (Nat.le_refl _) _) (World.size_alloc _ _)
  unfold doneAt execOp
  simp only [ho]
  simp [go_sem, e, doneUpon]
  exact hh
theorem done_boxA_put {K : Value → World → Prop} {T : TypeId} {sz : Nat} {z : Array Value} (R : IsRow T sz z) (x y : Operand) (ho : o.op = .store T x y) (O : Nat) (A old : Array Value) (hA : A.size = sz) (h1 : A.all (·.oneCell') = true) (hold : old.size = sz) (hx : a.eval x = .pointer (some ⟨O, 0, none⟩)) (hy : a.eval y = .agg A) (hO : BoxA w O T old)
    (h : ∀ w', BoxA w' O T A → Keeps (fun k => k = O) w w' → w'.heap.size = w.heap.size → K undef w') : doneAt Try.prog o a w K := by
  have hh := h _ (setRow_heap _ _ _ _ _ (0, 0) hO) (keeps_row O _ w) (by simp)
  unfold doneAt execOp
  simp only [ho, hx, hy, Instr.storeAt, Instr.sureAddr, Sem.run_bind, Sem.run_pure, Result.andThen_ok, run_storeVar_row w O T T old A hO (by rw [hA]; exact R.size) (hold.trans hA.symm) h1]
  exact hh
end
theorem rop_built5 (op key new ty : Int) (s : Bool) : Try.prog.built roT [(0, .int .i64 op), (2, .int .i64 key), (3, .int .i64 new), (4, .int .i64 ty), (5, .bool s)] = some (ropA ⟨op, 0, key, new, ty, s⟩) := by kernel_rfl
section
variable {o : Oper} {a : Act} {C : World → Prop} {K : Act → Prop}
theorem gives_rop5 (x0 x1 x2 x3 x4 : Operand) (ho : o.op = .build roT #[(0, x0), (2, x1), (3, x2), (4, x3), (5, x4)]) (op key new ty : Int) (s : Bool) (h0 : a.eval x0 = .int .i64 op) (h1 : a.eval x1 = .int .i64 key) (h2 : a.eval x2 = .int .i64 new) (h3 : a.eval x3 = .int .i64 ty) (h4 : a.eval x4 = .bool s) (hk : K (a.put o.dst (.agg (ropA ⟨op, 0, key, new, ty, s⟩)))) : ∃ v, Gives Try.prog C o a v ∧ K (a.put o.dst v) :=
  gives_build_any roT _ #[(0, .int .i64 op), (2, .int .i64 key), (3, .int .i64 new), (4, .int .i64 ty), (5, .bool s)] _ ho (by simp [h0, h1, h2, h3, h4]) (fun w => run_build w roT #[(0, .int .i64 op), (2, .int .i64 key), (3, .int .i64 new), (4, .int .i64 ty), (5, .bool s)] _ (rop_built5 op key new ty s)) hk
theorem gives_cm4 (x0 x1 x2 x3 : Operand) (ho : o.op = .build cmT #[(0, x0), (1, x1), (2, x2), (3, x3)]) (k u b m : Int) (h0 : a.eval x0 = .int .i64 k) (h1 : a.eval x1 = .int .i64 u) (h2 : a.eval x2 = .int .i64 b) (h3 : a.eval x3 = .int .i64 m) (hk : K (a.put o.dst (.agg (cmA none 0 0 ⟨k, u, b, m, zeroOp⟩)))) : ∃ v, Gives Try.prog C o a v ∧ K (a.put o.dst v) :=
  gives_build_any cmT _ #[(0, .int .i64 k), (1, .int .i64 u), (2, .int .i64 b), (3, .int .i64 m)] _ ho (by simp [h0, h1, h2, h3]) (fun w => run_build w cmT #[(0, .int .i64 k), (1, .int .i64 u), (2, .int .i64 b), (3, .int .i64 m)] _ (cm_built4 k u b m)) hk
end
end Go.Proofs.Ytkibeddfkenlkaa

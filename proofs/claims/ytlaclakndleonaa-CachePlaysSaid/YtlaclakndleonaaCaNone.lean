/- The law's line; what CacheNone walks: a nil cache. Condition: package cache does as CacheSpec says. -/
import Derived.Test.YtlaclakndleonaaCaOps
namespace Go.Proofs.Ytlaclakndleonaa
open Go.ChangeShapes Go.WideShapes Go.ChangeAt Go.RowKit
set_option linter.unusedVariables false
/-- An operation in a box of its own. -/
def OpBox (W : World) (O : Nat) (c : OpOf) : Prop := W.heap[O]? = some (.cells c.cells.toArray 38 (0, 0))
theorem OpBox.cell {W : World} {O : Nat} {c : OpOf} (h : OpBox W O c) (k : Nat) : W.cell? ⟨O, k, none⟩ = c.cells[k]? := (cell_of_row _ _ _ _ _ _ h).trans (by simp)
theorem OpBox.lt {W : World} {O : Nat} {c : OpOf} (h : OpBox W O c) : O < W.heap.size := (Array.getElem?_eq_some_iff.1 h).1
theorem OpBox.below {W W' : World} {O M : Nat} {c : OpOf} (h : OpBox W O c) (hb : Below M W W') (hO : O < M) : OpBox W' O c := (hb.block O hO).trans h
theorem OpBox.range {W : World} {O : Nat} {c : OpOf} (h : OpBox W O c) : W.rangeAt O 0 (opsC c) := fun j v hv => by
  rw [Nat.zero_add, h.cell]; exact hv
theorem opSize (c : OpOf) : (Try.prog.info? 38).map (·.size) = some (opsC c).length := by
  show _ = some 5
  kernel_rfl
theorem opOne (c : OpOf) : (opsC c).toArray.all (·.oneCell') = true := by simp [opsC, OpOf.cells, Value.oneCell']
def opZ : OpOf := ⟨0, 0, 0, 0, false⟩
section
variable {ops : Array Oper} {rest : List Oper} {o : Oper} {a : Act} {w : World} {Q : Exit → Act → World → Prop}
theorem gives_op_load {C : World → Prop} {K : Act → Prop} (x : Operand) (ho : o.op = .load 38 x) (B off : Nat) (hx : a.eval x = .pointer (some ⟨B, off, none⟩)) (c : OpOf) (hc : ∀ w, C w → w.rangeAt B off (opsC c)) (hk : K (a.put o.dst (.agg c.cells.toArray))) : ∃ v, Gives Try.prog C o a v ∧ K (a.put o.dst v) :=
  ⟨_, fun w hw => by
    unfold execOp
    simp only [ho, hx, Instr.loadAt, Instr.sureAddr, Sem.run_bind, Sem.run_pure, Result.andThen_ok, run_loadVar_mid w B off 38 (opsC c) _ (hc w hw) Try.underlying38 rfl (opSize c)]
    rfl, hk⟩
theorem wpList_op_load (hw : Region.wanted o (yielded ops a.tmps) = true) (x : Operand) (ho : o.op = .load 38 x) (B off : Nat) (hx : a.eval x = .pointer (some ⟨B, off, none⟩)) (c : OpOf) (hc : w.rangeAt B off (opsC c)) (h : wpList Try.prog ops Q rest (a.put o.dst (.agg c.cells.toArray)) w) : wpList Try.prog ops Q (o :: rest) a w := by
  obtain ⟨u, hu, hk⟩ := gives_op_load (o := o) (a := a) (C := fun W => W = w) (K := fun a' => a' = a.put o.dst (.agg c.cells.toArray)) x ho B off hx c (fun W e => by rw [e]; exact hc) rfl
  exact wanted_step hw fun K hK => by
    unfold Oper.wp
    rw [hu w rfl]
    show K (a.put o.dst u) w
    rw [hk]
    exact hK _ _ h
end
section
variable {ops : Array Oper} {rest : List Oper} {o : Oper} {a : Act} {w : World} {Q : Exit → Act → World → Prop}
theorem wpList_sec1 (hgd : o.guard = none) (x : Operand) (ho : o.op = .build 40 #[(0, x)]) (n : Nat) (hx : a.eval x = .int .u8 n) (h : wpList Try.prog ops Q rest (a.put o.dst (.agg (cellsOf .u8 (mk 128 (oneB n))))) w) : wpList Try.prog ops Q (o :: rest) a w :=
  wpList_build_any hgd _ _ #[(0, .int .u8 n)] _ ho (by simp [hx]) (run_sec1 n) h
theorem wpList_line4 (hgd : o.guard = none) (x0 x1 x2 x3 : Operand) (ho : o.op = .build 42 #[(0, x0), (1, x1), (2, x2), (3, x3)]) (u b : Int) (f : Nat → Nat) (hf : ∀ i, i < 128 → f i < 256) (d : Bool) (h0 : a.eval x0 = .int .i64 u) (h1 : a.eval x1 = .int .i64 b) (h2 : a.eval x2 = .agg (cellsOf .u8 (mk 128 f))) (h3 : a.eval x3 = .bool d)
    (h : wpList Try.prog ops Q rest (a.put o.dst (lineV ⟨u, b, mk 128 f, d⟩)) w) : wpList Try.prog ops Q (o :: rest) a w :=
  wpList_build_any hgd _ _ #[(0, .int .i64 u), (1, .int .i64 b), (2, .agg (cellsOf .u8 (mk 128 f))), (3, .bool d)] _ ho (by simp [h0, h1, h2, h3]) (run_line4 u b f hf d) h
end
attribute [local irreducible] mk lineC oneB
set_option maxRecDepth 100000 in
set_option maxHeartbeats 2000000 in
theorem line_any (c : OpOf) (hc : c.ok) (w : World) : Calls Try.prog 16 #[.agg c.cells.toArray] w fun e w' => e = .returned (lineV c.line) ∧ Below w.heap.size w w' := by
  have X0 := Lib.hid (show OpBox (w.alloc (.cells c.cells.toArray 38)) w.heap.size c from heap_alloc_new _ _)
  have X1 := Lib.hid (show OpBox ((w.alloc (.cells c.cells.toArray 38)).alloc (.cells (lineC noLine).toArray 42)) w.heap.size c from (Below.heap_alloc _ _ _ (by simp)).trans X0.out)
  have k1 := X1.out.cell 1
  have k2 := X1.out.cell 2
  have k3 := X1.out.cell 3
  have k4 := X1.out.cell 4
  simp only [OpOf.cells, List.getElem?_cons_succ, List.getElem?_cons_zero] at k1 k2 k3 k4
  have Z1 := Lib.hid (show LineBox ((w.alloc (.cells c.cells.toArray 38)).alloc (.cells (lineC noLine).toArray 42)) (w.heap.size + 1) noLine from by
    have := LineBox.alloc (w.alloc (.cells c.cells.toArray 38)) noLine
    rwa [World.size_alloc] at this)
  have B1 := Lib.hid (below_two w (.cells c.cells.toArray 38) (.cells (lineC noLine).toArray 42))
  have HB := Lib.hid (show ∀ i, i < 128 → oneB c.byte i < 256 from fun i _ => by have := hc.byte; unfold oneB; split <;> omega)
  simp only [OpOf.cells] at X1 Z1 B1 k1 k2 k3 k4
  show Calls Try.prog 16 #[.agg #[.int .i64 c.kind, .int .i64 c.u, .int .i64 c.b, .int .u8 c.byte, .bool c.d]] w _
  go_enter Try.func16, Try.ntmps16
  go_wp2_with (first
    | (refine wpList_line_alloc rfl rfl (w.heap.size + 1) (World.size_alloc _ _) ?_)
    | (refine wpList_sec1 rfl _ rfl c.byte rfl ?_)
    | (refine wpList_line4 rfl _ _ _ _ rfl c.u c.b (oneB c.byte) HB.out c.d rfl rfl rfl rfl ?_)
    | (refine store_row_on rfl 42 _ _ rfl rfl (w.heap.size + 1) (lineC c.line).toArray rfl rfl 42 (lineC noLine).toArray Z1.out (lineA_size _) (lineA_same _ _) (lineA_one _) ?_))
  exact bodyPost_ret (results_cell_row rfl _ _ (w.heap.size + 1) 42 (lineC c.line).toArray (0, 0) _ rfl (Z1.out.set c.line) Try.underlying42 rfl (lineA_size _)) rfl ⟨rfl, below_setRow B1.out (by omega) _⟩
end Go.Proofs.Ytlaclakndleonaa

/- Operations of drawn regions over the cache's struct and map. Conditions: as each says. -/
import Derived.Test.YtlaclakndleonaaCmState
namespace Go.Proofs.Ytlaclakndleonaa
open Go.ChangeShapes Go.WideShapes Go.ChangeAt Go.RowKit
set_option linter.unusedVariables false
theorem box_map (w : World) : (isAgg mapT).run Try.prog w = .ok false w := by simp [go_sem, mapT]
theorem box_places (w : World) : (isAgg plS).run Try.prog w = .ok false w := by simp [go_sem, plS]
section
variable {o : Oper} {a : Act} {w : World} {C : World → Prop} {K : Act → Prop}
theorem gives_cafield (x : Operand) (k : Nat) (ho : o.op = .fieldAddr 64 x k) (hk7 : k < 3) (B : Nat) (hx : a.eval x = .pointer (some ⟨B, 0, none⟩)) (hk : K (a.put o.dst (.pointer (some ⟨B, k, none⟩)))) : ∃ v, Gives Try.prog C o a v ∧ K (a.put o.dst v) :=
  ⟨_, fun w _ => by
    unfold execOp
    simp only [ho, hx]
    rcases k with _ | _ | _ | k
    all_goals first | (exfalso; omega) | simp [go_sem], hk⟩
theorem gives_look (x y : Operand) (ho : o.op = .lookup mapT x y false) (M : Nat) (ls : List LineOf) (u c : Int) (hx : a.eval x = .map (some M)) (hy : a.eval y = .agg #[.int .i64 u, .int .i64 c]) (hu : okI u) (hc : okI c) (hC : ∀ W, C W → MapL W M ls) (hk : K (a.put o.dst (lineV (gotL ls u c)))) : ∃ v, Gives Try.prog C o a v ∧ K (a.put o.dst v) :=
  ⟨_, fun w hw => by
    have e := MapG.look (hC w hw) hu hc
    unfold execOp
    simp only [ho, hx, hy]
    unfold pk at e
    rw [Sem.run_bind, e]; rfl, hk⟩
theorem gives_look_ok (x y : Operand) (ho : o.op = .lookup mapT x y true) (M : Nat) (ls : List LineOf) (u c : Int) (hx : a.eval x = .map (some M)) (hy : a.eval y = .agg #[.int .i64 u, .int .i64 c]) (hu : okI u) (hc : okI c) (hC : ∀ W, C W → MapL W M ls) (hk : K (a.put o.dst (.tuple #[lineV (gotL ls u c), .bool (decide (findL ls u c < ls.length))]))) : ∃ v, Gives Try.prog C o a v ∧ K (a.put o.dst v) :=
  ⟨_, fun w hw => by
    have e := MapG.look_ok (hC w hw) hu hc
    unfold execOp
    simp only [ho, hx, hy]
    unfold pk at e
    rw [Sem.run_bind, e]; rfl, hk⟩
theorem gives_map_len (x : Operand) (ho : o.op = .call { callee := .builtin .len, args := #[x], argTypes := #[mapT] }) (M : Nat) (ls : List LineOf) (hx : a.eval x = .map (some M)) (hC : ∀ W, C W → MapL W M ls) (hk : K (a.put o.dst (.int .i64 ls.length))) : ∃ v, Gives Try.prog C o a v ∧ K (a.put o.dst v) :=
  ⟨_, fun w hw => by
    have e := MapG.len (hC w hw) o.type
    unfold execOp
    simp [ho, resolve, invoke, builtin, hx, e, Result.andThen], hk⟩
theorem gives_part (x : Operand) (k : Nat) (ho : o.op = .extract x k) (vs : Array Value) (v : Value) (hx : a.eval x = .tuple vs) (hv : vs[k]? = some v) (hk : K (a.put o.dst v)) : ∃ v, Gives Try.prog C o a v ∧ K (a.put o.dst v) :=
  ⟨_, fun w _ => by
    unfold execOp
    simp only [ho, hx]
    simp [go_sem, hv], hk⟩
theorem gives_line_d (x : Operand) (ho : o.op = .field 42 x 3) (l : LineOf) (hx : a.eval x = lineV l) (hk : K (a.put o.dst (.bool l.d))) : ∃ v, Gives Try.prog C o a v ∧ K (a.put o.dst v) :=
  ⟨_, fun w _ => by
    have e := line_part3 l w
    have g : (Instr.field 42 (lineV l) 3).run Try.prog w = .ok (.bool l.d) w := by
      unfold Instr.field lineV
      simp [go_sem, asAgg]
      exact e
    unfold execOp
    simp only [ho, hx]
    rw [Sem.run_bind, g]; rfl, hk⟩
theorem done_delete {K : Value → World → Prop} (x y : Operand) (ho : o.op = .call { callee := .builtin .delete, args := #[x, y], argTypes := #[mapT, 66] }) (M : Nat) (u c : Int) (hx : a.eval x = .map (some M)) (hy : a.eval y = .agg #[.int .i64 u, .int .i64 c]) (w' : World)
    (hr : (Builtin.delete_ #[mapT, 66] o.type #[.map (some M), pk u c]).run Try.prog w = .ok (.tuple #[]) w') (h : K (.tuple #[]) w') : doneAt Try.prog o a w K := by
  unfold pk at hr
  unfold doneAt execOp
  simp only [ho]
  simp [resolve, invoke, builtin, hx, hy, hr, Result.andThen]
  exact h
theorem done_update {K : Value → World → Prop} (x y z : Operand) (ho : o.op = .mapUpdate mapT x y z) (M : Nat) (u c : Int) (l : LineOf) (hx : a.eval x = .map (some M)) (hy : a.eval y = .agg #[.int .i64 u, .int .i64 c]) (hz : a.eval z = lineV l) (w' : World)
    (hr : (Instr.mapUpdate mapT (.map (some M)) (pk u c) (lineV l)).run Try.prog w = .ok () w') (h : K undef w') : doneAt Try.prog o a w K := by
  unfold pk at hr
  unfold doneAt execOp
  simp only [ho, hx, hy, hz]
  rw [Sem.run_bind, hr]
  exact h
theorem done_line_alloc {K : Value → World → Prop} (ho : o.op = .alloc 42) (h : K (.pointer (some ⟨w.heap.size, 0, none⟩)) (w.alloc (.cells (lineC noLine).toArray 42))) : doneAt Try.prog o a w K := by
  have e := lineZero_run w
  unfold doneAt execOp
  simp only [ho]
  simp [go_sem, e, lineZ]
  exact h
theorem done_line_store {K : Value → World → Prop} (x y : Operand) (ho : o.op = .store 42 x y) (O : Nat) (l old : LineOf) (hx : a.eval x = .pointer (some ⟨O, 0, none⟩)) (hy : a.eval y = lineV l) (hO : LineBox w O old) (h : K undef (w.setRow O (lineC l).toArray)) : doneAt Try.prog o a w K := by
  unfold doneAt execOp
  unfold lineV at hy
  simp only [ho, hx, hy, Instr.storeAt, Instr.sureAddr, Sem.run_bind, Sem.run_pure, Result.andThen_ok, run_storeVar_row w O 42 42 _ (lineC l).toArray hO (lineA_size l) (lineA_same _ _) (lineA_one l)]
  exact h
theorem done_place1 {K : Value → World → Prop} (x : Operand) (ho : o.op = .buildSlice plS 1 #[(0, x)]) (u c : Int) (hx : a.eval x = .agg #[.int .i64 u, .int .i64 c])
    (h : K (.slice (some ⟨w.heap.size, 0, none⟩) 1 1) (w.alloc (.cells #[.int .i64 u, .int .i64 c] plT))) : doneAt Try.prog o a w K := by
  have e : (Instr.buildSlice plS 1 #[(0, .agg #[.int .i64 u, .int .i64 c])]).run Try.prog w = .ok (.slice (some ⟨w.heap.size, 0, none⟩) 1 1) (w.alloc (.cells #[.int .i64 u, .int .i64 c] plT)) := by
    have hi := placeSize
    have hz := placeZero
    cases hq : Try.prog.info? plT with
    | none => rw [hq] at hi; simp at hi
    | some i =>
      rw [hq] at hi hz
      have hs : i.size = 2 := by simpa using hi
      have hzz : i.zero = some (pk 0 0) := by simpa using hz
      refine run_buildSlice w plS plT 1 _ _ i _ Try.underlying62 hq hzz (by rw [hs]; omega) (by rw [hs]; omega) ?_
      rw [hs]; kernel_rfl
  unfold doneAt execOp
  simp only [ho]
  simp [hx, e]
  exact h
theorem done_store_places {K : Value → World → Prop} (x y : Operand) (ho : o.op = .store plS x y) (p : Addr) (q : Option Addr) (n c : Nat) (hx : a.eval x = .pointer (some p)) (hy : a.eval y = .slice q n c) (old : Value) (hc : w.cell? p = some old) (hf : w.frozen? p = false)
    (h : K undef (w.setCell p (.slice q n c))) : doneAt Try.prog o a w K := by
  unfold doneAt execOp
  simp only [ho, hx, hy]
  simp [go_sem, hc, hf]
  exact h
theorem rows_place1 (w : World) (u c : Int) : RowsAt 2 placeC (w.alloc (.cells #[.int .i64 u, .int .i64 c] plT)) (some ⟨w.heap.size, 0, none⟩) [(u, c)] :=
  .inr ⟨w.heap.size, 0, rfl, by simp, fun i d hd j v hv => by
    rcases i with _ | i
    · obtain rfl : (u, c) = d := by simpa using hd
      rw [cell_of_row _ _ _ _ _ _ (heap_alloc_new w (.cells #[.int .i64 u, .int .i64 c] plT))]
      simpa [placeC] using hv
    · simp at hd⟩
end
end Go.Proofs.Ytlaclakndleonaa

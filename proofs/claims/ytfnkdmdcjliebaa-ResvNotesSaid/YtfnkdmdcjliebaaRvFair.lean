/- Loops over holders; named results; calls in drawn regions. Conditions: as each says. -/
import Derived.Test.YtfnkdmdcjliebaaRvAlive
import Derived.WalkMore
namespace Go.Proofs.Ytfnkdmdcjliebaa
open Go.ChangeShapes Go.WideShapes Go.ChangeAt Go.RowKit
set_option linter.unusedVariables false
theorem low_save {w V V' : World} (h : Below w.heap.size w V) (hs : Save w.heap.size V V') : Below w.heap.size w V' :=
  ⟨hs.os.trans h.os, hs.tape.trans h.tape, hs.output.trans h.output, Nat.le_trans h.size hs.size, fun k hk => (hs.same k (Nat.lt_of_lt_of_le hk h.size) (by omega) (by omega)).trans (h.block k hk)⟩
theorem holders_hold {r : ResvOf} {i : Nat} (hi : i < (holdersR r).length) : holdsR r ((holdersR r).getD i 0) = true := by
  have hm : (holdersR r).getD i 0 ∈ holdersR r := by rw [List.getD_eq_getElem?_getD, List.getElem?_eq_getElem hi]; exact List.getElem_mem hi
  obtain ⟨p, hp, he⟩ := List.mem_map.1 hm
  rw [← he]
  exact (List.mem_filter.1 hp).2
theorem holders_ok {r : ResvOf} (h : r.ok) (i : Nat) : okI ((holdersR r).getD i 0) := by
  by_cases hi : i < (holdersR r).length
  · have hm : (holdersR r).getD i 0 ∈ holdersR r := by rw [List.getD_eq_getElem?_getD, List.getElem?_eq_getElem hi]; exact List.getElem_mem hi
    obtain ⟨p, hp, he⟩ := List.mem_map.1 hm
    rw [← he]
    exact (h.1 p (List.mem_filter.1 hp).1).1
  · rw [List.getD_eq_getElem?_getD, List.getElem?_eq_none (by omega)]; exact okI_zero
theorem gives_boxA_load {T : TypeId} {sz : Nat} {z : Array Value} (R : IsRow T sz z) {o : Oper} {a : Act} {C : World → Prop} {K : Act → Prop} (x : Operand) (ho : o.op = .load T x) (O : Nat) (A : Array Value) (hA : A.size = sz) (hx : a.eval x = .pointer (some ⟨O, 0, none⟩)) (hO : ∀ W, C W → BoxA W O T A) (hk : K (a.put o.dst (.agg A))) : ∃ v, Gives Try.prog C o a v ∧ K (a.put o.dst v) := by
  obtain ⟨d, hu, hd⟩ := R.under
  refine ⟨_, fun w hw => ?_, hk⟩
  have hl : (loadVar T ⟨O, 0, none⟩).run Try.prog w = .ok (.agg A) w := by
    refine run_loadVar_row w O T T A (0, 0) d (hO w hw) hu ?_ (by rw [hA]; exact R.size)
    cases d <;> first | rfl | exact hd
  unfold execOp
  simp only [ho, hx, Instr.loadAt, Instr.sureAddr, Sem.run_bind, Sem.run_pure, Result.andThen_ok, hl]
theorem done_call3 {o : Oper} {a : Act} {w : World} {K : Value → World → Prop} (x y z u : Operand) (ts : Array TypeId) (ho : o.op = .call { callee := .value x, args := #[y, z, u], argTypes := ts }) (g : FuncId) (hx : a.eval x = .func (.func g) #[] #[])
    (p q r : Value) (hy : a.eval y = p) (hz : a.eval z = q) (hu : a.eval u = r) (hf : ∀ (args : Array Value) (w : World), (callFunc g args).run Try.prog w = .ok (.enter g args) w)
    (hc : Calls Try.prog g #[p, q, r] w fun e w' => ∃ v, e = .returned v ∧ K v w') : doneAt Try.prog o a w K :=
  done_call x #[y, z, u] ts ho g #[p, q, r] hx (by simp only [List.map_toArray, List.map_cons, List.map_nil, hy, hz, hu]) (hf _ w) hc
theorem fin_cell {W : World} {O D : Nat} {T : TypeId} {u v : Value} {o : Obj} (h : W.heap[O]? = some (.cells #[u] T (0, 0))) (hn : O ≠ D) : ((W.setCell ⟨O, 0, none⟩ v).putObj D o).cell? ⟨O, 0, none⟩ = some v :=
  (World.cell?_of_block (w := W.setCell ⟨O, 0, none⟩ v) (a := ⟨O, 0, none⟩) (World.putObj_heap_other (fun e => hn e))).trans (cell_of_row _ _ _ _ _ _ (heap_setCell_same _ _ _ _ _ _ h))
theorem fin_below {w W : World} {T : TypeId} {u v : Value} (h : W.heap[w.heap.size]? = some (.cells #[u] T (0, 0))) (hb : Below w.heap.size w W) : Below w.heap.size w (W.setCell ⟨w.heap.size, 0, none⟩ v) := hb.setCell (p := ⟨w.heap.size, 0, none⟩) (Nat.le_refl _) v
theorem fin_cell0 {W : World} {O : Nat} {T : TypeId} {u v : Value} (h : W.heap[O]? = some (.cells #[u] T (0, 0))) : (W.setCell ⟨O, 0, none⟩ v).cell? ⟨O, 0, none⟩ = some v := cell_of_row _ _ _ _ _ _ (heap_setCell_same _ _ _ _ _ _ h)
theorem fin_belowO {w W : World} {O : Nat} {T : TypeId} {u v : Value} (h : W.heap[O]? = some (.cells #[u] T (0, 0))) (hb : Below w.heap.size w W) (hO : w.heap.size ≤ O) : Below w.heap.size w (W.setCell ⟨O, 0, none⟩ v) := hb.setCell (p := ⟨O, 0, none⟩) hO v
theorem done_store_bool {o : Oper} {a : Act} {w : World} {K : Value → World → Prop} (x y : Operand) (ho : o.op = .store 4 x y) (p : Addr) (v : Bool) (hx : a.eval x = .pointer (some p)) (hy : a.eval y = .bool v) (old : Value) (hc : w.cell? p = some old) (hf : w.frozen? p = false)
    (h : K undef (w.setCell p (.bool v))) : doneAt Try.prog o a w K := by
  unfold doneAt execOp
  simp only [ho, hx, hy]
  simp [go_sem, hc, hf]
  exact h
theorem gives_bool_same {o : Oper} {a : Act} {C : World → Prop} {K : Act → Prop} (x y : Operand) (ho : o.op = .binOp .eql 4 x y 4) (i : Bool) (hx : a.eval x = .bool i) (hy : a.eval y = .bool i) (hk : K (a.put o.dst (.bool true))) : ∃ v, Gives Try.prog C o a v ∧ K (a.put o.dst v) :=
  ⟨_, fun w _ => by
    unfold execOp
    simp only [ho, hx, hy]
    simp [go_sem], hk⟩
theorem rowRg : IsRow rgT 2 #[.int .i64 0, .int .i64 0] := ⟨⟨_, Try.underlying39, rfl⟩, by kernel_rfl, by kernel_rfl, rfl⟩
theorem rg_one (p : Int × Int) : (#[.int .i64 p.1, .int .i64 p.2] : Array Value).all (·.oneCell') = true := by simp [Value.oneCell']
/-- The loop's count in its block; all else stands. -/
structure CntI (w5 : World) (N : Nat) (i : Nat) (V : World) : Prop where
  keeps : Keeps (fun k => k = N) w5 V
  cnt : V.heap[N]? = some (.cells #[.int .i64 i] 3 (0, 0))
theorem CntI.save {w5 V V' : World} {N i : Nat} (h : CntI w5 N i V) (hN : N < w5.heap.size) (hs : Save w5.heap.size V V') : CntI w5 N i V' :=
  ⟨⟨hs.os.trans h.keeps.os, hs.tape.trans h.keeps.tape, hs.output.trans h.keeps.output, Nat.le_trans h.keeps.size hs.size, fun k hk hn => (hs.same k (Nat.lt_of_lt_of_le hk h.keeps.size) (by omega) (by omega)).trans (h.keeps.block k hk hn)⟩, (hs.same N (Nat.lt_of_lt_of_le hN h.keeps.size) (by omega) (by omega)).trans h.cnt⟩
theorem CntI.below {w5 V V' : World} {N i : Nat} (h : CntI w5 N i V) (hN : N < w5.heap.size) (hb : Below V.heap.size V V') : CntI w5 N i V' :=
  ⟨⟨hb.os.trans h.keeps.os, hb.tape.trans h.keeps.tape, hb.output.trans h.keeps.output, Nat.le_trans h.keeps.size hb.size, fun k hk hn => (hb.block k (Nat.lt_of_lt_of_le hk h.keeps.size)).trans (h.keeps.block k hk hn)⟩, (hb.block N (Nat.lt_of_lt_of_le hN h.keeps.size)).trans h.cnt⟩
theorem CntI.next {w5 V : World} {N i : Nat} (h : CntI w5 N i V) : CntI w5 N (i + 1) (V.setCell ⟨N, 0, none⟩ (.int .i64 ((i + 1 : Nat) : Int))) :=
  ⟨Keeps.setCell (S := fun k => k = N) h.keeps (B := N) rfl 0 _, heap_setCell_same _ _ _ _ _ _ h.cnt⟩
/-- How many of the first k registrations hold. -/
def cntH (r : ResvOf) (k : Nat) : Nat := ((r.regs.take k).filter fun p => holdsR r p.1).length
theorem cntH_zero (r : ResvOf) : cntH r 0 = 0 := rfl
theorem cntH_next {r : ResvOf} {k : Nat} (hk : k < r.regs.length) : cntH r (k + 1) = if holdsR r (atR r.regs k).1 then cntH r k + 1 else cntH r k := by
  unfold cntH
  rw [take_snocR hk, List.filter_append, List.length_append]
  cases h : holdsR r (atR r.regs k).1
  · rw [List.filter_cons, h]; rfl
  · rw [List.filter_cons, h]; rfl
theorem cntH_all (r : ResvOf) : cntH r r.regs.length = (holdersR r).length := by unfold cntH holdersR; rw [List.take_length, List.length_map]
theorem cntH_le (r : ResvOf) (k : Nat) : cntH r k ≤ k := by
  unfold cntH
  exact Nat.le_trans (List.length_filter_le _ _) (by rw [List.length_take]; omega)
end Go.Proofs.Ytfnkdmdcjliebaa

/- Regions whose order Go leaves open, where each call may make memory of its own: one walk in the text's order serves every order, over a class of worlds; operations of any type. Condition: what the class keeps. -/
import Derived.Test.YtfjbehobpkmjbaaDoorByteE
import Derived.Test.YtfjbehobpkmjbaaDoorArr
import Derived.Deep.Quiet
import Derived.BigQuiet
namespace Go.Proofs.YtfjbehobpkmjbaaDoor
open Go Go.RowKit

theorem quiet_value {P : Program} {o : Oper} {a : Act} {C : World → Prop} {K : Act → Prop} (v : Value) (hr : ∀ w, C w → (execOp a.eval o).run P w = .ok (.value v) w) (hk : K (a.put o.dst v)) : o.quiet P a C K :=
  ⟨v, fun w hw => by unfold Oper.quietAt; rw [hr w hw]; exact ⟨rfl, rfl⟩, hk⟩
theorem quiet_call {P : Program} {o : Oper} {a : Act} {C : World → Prop} {K : Act → Prop} (f : FuncId) (args : Array Value) (v : Value) (hr : ∀ w, (execOp a.eval o).run P w = .ok (.enter f args) w)
    (hc : ∀ w, C w → Calls P f args w fun e w' => e = .returned v ∧ C w') (hk : K (a.put o.dst v)) : o.quiet P a C K :=
  ⟨v, fun w hw => by unfold Oper.quietAt; rw [hr w]; exact ⟨rfl, hc w hw⟩, hk⟩

theorem wp_region_class {P : Program} {id : Nat} {Q : Exit → Act → World → Prop} {a : Act} {w : World} {l : List Oper} (C : World → Prop) (hm : P.follows .mixedOrders = true) (hB : Region.lexB .any l.toArray = true) (hC : C w.drew)
    (h : wpQuiet P l.toArray C (fun a' => ∀ w', C w' → Q .normal a' w') l a) : (Code.region id l.toArray true).wp P Q a w :=
  wp_region_quiet (C := C) hm hB hC (by simpa using h)

theorem quiet_pick {o : Oper} {a : Act} {C : World → Prop} {K : Act → Prop} (c x y : Operand) (ho : o.op = .pick c x y) (hc : a.eval c = .bool true) (hx : a.eval x = .bool true) (hk : K (a.put o.dst (.bool true))) : o.quiet Tryd.prog a C K := by
  refine quiet_value _ (fun w _ => ?_) hk
  unfold execOp
  simp only [ho, hc, hx]
  simp [go_sem]
theorem quiet_calls {o : Oper} {a : Act} {C : World → Prop} {K : Act → Prop} (x : Operand) (xs : Array Operand) (ts : Array TypeId) (ho : o.op = .call { callee := .value x, args := xs, argTypes := ts }) (f : FuncId) (args : Array Value) (v : Value)
    (hx : a.eval x = .func (.func f) #[] #[]) (ha : xs.map a.eval = args) (hf : ∀ w, (callFunc f args).run Tryd.prog w = .ok (.enter f args) w)
    (hc : ∀ w, C w → Calls Tryd.prog f args w fun e w' => e = .returned v ∧ C w') (hk : K (a.put o.dst v)) : o.quiet Tryd.prog a C K := by
  refine quiet_call f args v (fun w => ?_) hc hk
  unfold execOp
  simp only [ho, resolve, hx, ha, Deferred.ofValue, Sem.run_bind, Sem.run_pure, Result.andThen_ok, invoke, Array.append_empty, Array.empty_append, hf w]
/-- A whole key stored, and the walk goes on. -/
theorem store_row_on {P : Program} {ops : Array Oper} {rest : List Oper} {o : Oper} {a : Act} {w : World} {Q : Exit → Act → World → Prop} (hgd : o.guard = none) (ty : TypeId) (x y : Operand) (ho : o.op = .store ty x y) (hd : o.dst = none)
    (g : Nat) (cells : Array Value) (hx : a.eval x = .pointer (some ⟨g, 0, none⟩)) (hy : a.eval y = .agg cells)
    (t : TypeId) (old : Array Value) (hg : w.heap[g]? = some (.cells old t (0, 0))) (hi : (P.info? ty).map (·.size) = some cells.size)
    (hold : old.size = cells.size) (h1 : cells.all (·.oneCell') = true)
    (h : wpList P ops Q rest a (w.setRow g cells)) : wpList P ops Q (o :: rest) a w :=
  wpList_store_row hgd ty x y ho g cells hx hy t old hg hi hold h1 (by rw [hd]; exact h)
/-- A call of a function that makes memory of its own alone, over the class of worlds in which nothing that was there has turned. -/
theorem class_of {W0 : World} {g : FuncId} {args : Array Value} {v : Value} (h : ∀ w, Calls Tryd.prog g args w fun e w' => e = .returned v ∧ Below w.heap.size w w') :
    ∀ w, Below W0.heap.size W0 w → Calls Tryd.prog g args w fun e w' => e = .returned v ∧ Below W0.heap.size W0 w' :=
  fun w hw => (h w).mono fun _ _ ⟨he, hb⟩ => ⟨he, hw.trans (hb.mono hw.size)⟩
/-- Integers; what is passed over. -/
theorem quiet_pick_no {o : Oper} {a : Act} {C : World → Prop} {K : Act → Prop} (c x y : Operand) (ho : o.op = .pick c x y) (hc : a.eval c = .bool false) (hy : a.eval y = .bool false) (hk : K (a.put o.dst (.bool false))) : o.quiet Tryd.prog a C K := by
  refine quiet_value _ (fun w _ => ?_) hk
  unfold execOp
  simp only [ho, hc, hy]
  simp [go_sem]
theorem quiet_int_add {o : Oper} {a : Act} {C : World → Prop} {K : Act → Prop} (x y : Operand) (ho : o.op = .binOp .add 3 x y 3) (i j r : Int) (hx : a.eval x = .int .i64 i) (hy : a.eval y = .int .i64 j)
    (h : IntKind.i64.wrap (i + j) = r) (hk : K (a.put o.dst (.int .i64 r))) : o.quiet Tryd.prog a C K := by
  refine quiet_value _ (fun w _ => ?_) hk
  unfold execOp
  simp only [ho, hx, hy]
  simp [go_sem, h]
theorem quiet_int_rem {o : Oper} {a : Act} {C : World → Prop} {K : Act → Prop} (x y : Operand) (ho : o.op = .binOp .rem 3 x y 3) (i j r : Int) (hx : a.eval x = .int .i64 i) (hy : a.eval y = .int .i64 j) (hj : j ≠ 0)
    (h : i.tmod j = r) (hk : K (a.put o.dst (.int .i64 r))) : o.quiet Tryd.prog a C K := by
  refine quiet_value _ (fun w _ => ?_) hk
  unfold execOp
  simp only [ho, hx, hy]
  simp [go_sem, h, hj]
/-- A call of a function of one value, of two, of three, of none. -/
theorem quiet_call0 {o : Oper} {a : Act} {C : World → Prop} {K : Act → Prop} (x : Operand) (ts : Array TypeId) (ho : o.op = .call { callee := .value x, args := #[], argTypes := ts }) (g : FuncId) (hx : a.eval x = .func (.func g) #[] #[])
    (r : Value) (hf : ∀ (args : Array Value) (w : World), (callFunc g args).run Tryd.prog w = .ok (.enter g args) w)
    (hc : ∀ w, C w → Calls Tryd.prog g #[] w fun e w' => e = .returned r ∧ C w') (hk : K (a.put o.dst r)) : o.quiet Tryd.prog a C K :=
  quiet_calls x #[] ts ho g _ _ hx (by simp only [List.map_toArray, List.map_nil]) (fun w => hf _ w) hc hk
theorem quiet_call1 {o : Oper} {a : Act} {C : World → Prop} {K : Act → Prop} (x y : Operand) (ts : Array TypeId) (ho : o.op = .call { callee := .value x, args := #[y], argTypes := ts }) (g : FuncId) (hx : a.eval x = .func (.func g) #[] #[])
    (u r : Value) (hy : a.eval y = u) (hf : ∀ (args : Array Value) (w : World), (callFunc g args).run Tryd.prog w = .ok (.enter g args) w)
    (hc : ∀ w, C w → Calls Tryd.prog g #[u] w fun e w' => e = .returned r ∧ C w') (hk : K (a.put o.dst r)) : o.quiet Tryd.prog a C K :=
  quiet_calls x #[y] ts ho g _ _ hx (by simp only [List.map_toArray, List.map_cons, List.map_nil, hy]) (fun w => hf _ w) hc hk
theorem quiet_call2 {o : Oper} {a : Act} {C : World → Prop} {K : Act → Prop} (x y z : Operand) (ts : Array TypeId) (ho : o.op = .call { callee := .value x, args := #[y, z], argTypes := ts }) (g : FuncId) (hx : a.eval x = .func (.func g) #[] #[])
    (u v r : Value) (hy : a.eval y = u) (hz : a.eval z = v) (hf : ∀ (args : Array Value) (w : World), (callFunc g args).run Tryd.prog w = .ok (.enter g args) w)
    (hc : ∀ w, C w → Calls Tryd.prog g #[u, v] w fun e w' => e = .returned r ∧ C w') (hk : K (a.put o.dst r)) : o.quiet Tryd.prog a C K :=
  quiet_calls x #[y, z] ts ho g _ _ hx (by simp only [List.map_toArray, List.map_cons, List.map_nil, hy, hz]) (fun w => hf _ w) hc hk
theorem quiet_call3 {o : Oper} {a : Act} {C : World → Prop} {K : Act → Prop} (x y z t : Operand) (ts : Array TypeId) (ho : o.op = .call { callee := .value x, args := #[y, z, t], argTypes := ts }) (g : FuncId) (hx : a.eval x = .func (.func g) #[] #[])
    (u v s r : Value) (hy : a.eval y = u) (hz : a.eval z = v) (ht : a.eval t = s) (hf : ∀ (args : Array Value) (w : World), (callFunc g args).run Tryd.prog w = .ok (.enter g args) w)
    (hc : ∀ w, C w → Calls Tryd.prog g #[u, v, s] w fun e w' => e = .returned r ∧ C w') (hk : K (a.put o.dst r)) : o.quiet Tryd.prog a C K :=
  quiet_calls x #[y, z, t] ts ho g _ _ hx (by simp only [List.map_toArray, List.map_cons, List.map_nil, hy, hz, ht]) (fun w => hf _ w) hc hk
/-- A whole array loaded. -/
theorem quiet_load_row {o : Oper} {a : Act} {C : World → Prop} {K : Act → Prop} (ty : TypeId) (x : Operand) (ho : o.op = .load ty x) (B : Nat) (k : IntKind) (l : List Int) (hx : a.eval x = .pointer (some ⟨B, 0, none⟩)) (n : Nat) (e : TypeId) (hu : Tryd.prog.underlying ty = some (.array n e))
    (hi : (Tryd.prog.info? ty).map (·.size) = some (cellsOf k l).size) (hB : ∀ w, C w → IntBlk w B k ty l) (hk : K (a.put o.dst (.agg (cellsOf k l)))) : o.quiet Tryd.prog a C K := by
  refine quiet_value _ (fun w hw => ?_) hk
  unfold execOp
  simp only [ho, hx, Instr.loadAt, Instr.sureAddr, Sem.run_bind, Sem.run_pure, Result.andThen_ok, run_loadVar_row w B ty ty _ (0, 0) _ (hB w hw) hu rfl hi]
end Go.Proofs.YtfjbehobpkmjbaaDoor

/- Regions whose order Go leaves open, where each call may make memory of its own: one walk in the text's order serves every order, over a class of worlds. Laws for the operations on keys. Condition: what the class keeps. -/
import Derived.Test.YtilfjmpoiiepkaaKeyS
import Derived.Deep.Quiet
import Derived.BigQuiet
namespace Go.Proofs.Ytilfjmpoiiepkaa
open Go.ChangeShapes Go.WideShapes Go.ChangeAt Go.RowKit

theorem quiet_value {P : Program} {o : Oper} {a : Act} {C : World → Prop} {K : Act → Prop} (v : Value) (hr : ∀ w, C w → (execOp a.eval o).run P w = .ok (.value v) w) (hk : K (a.put o.dst v)) : o.quiet P a C K :=
  ⟨v, fun w hw => by unfold Oper.quietAt; rw [hr w hw]; exact ⟨rfl, rfl⟩, hk⟩
theorem quiet_call {P : Program} {o : Oper} {a : Act} {C : World → Prop} {K : Act → Prop} (f : FuncId) (args : Array Value) (v : Value) (hr : ∀ w, (execOp a.eval o).run P w = .ok (.enter f args) w)
    (hc : ∀ w, C w → Calls P f args w fun e w' => e = .returned v ∧ C w') (hk : K (a.put o.dst v)) : o.quiet P a C K :=
  ⟨v, fun w hw => by unfold Oper.quietAt; rw [hr w]; exact ⟨rfl, hc w hw⟩, hk⟩

theorem wp_region_class {P : Program} {id : Nat} {Q : Exit → Act → World → Prop} {a : Act} {w : World} {l : List Oper} (C : World → Prop) (hm : P.follows .mixedOrders = true) (hB : Region.lexB .any l.toArray = true) (hC : C w.drew)
    (h : wpQuiet P l.toArray C (fun a' => ∀ w', C w' → Q .normal a' w') l a) : (Code.region id l.toArray true).wp P Q a w :=
  wp_region_quiet (C := C) hm hB hC (by simpa using h)

theorem key_eq (f g : Nat → Nat) (w : World) : (Op.equalIn 10000 23 (.agg (cellsOf .u8 (mk 16 f))) (.agg (cellsOf .u8 (mk 16 g)))).run Try.prog w = .ok (mk 16 f == mk 16 g) w :=
  run_equalIn_ints w 9998 (mk 16 f) (mk 16 g) (by rw [mk_len]; exact keyUnder) byteElem (by rw [mk_len, mk_len])
theorem quiet_eql {o : Oper} {a : Act} {C : World → Prop} {K : Act → Prop} (x y : Operand) (ho : o.op = .binOp .eql 23 x y 23) (f g : Nat → Nat)
    (hx : a.eval x = .agg (cellsOf .u8 (mk 16 f))) (hy : a.eval y = .agg (cellsOf .u8 (mk 16 g))) (h : mk 16 f = mk 16 g) (hk : K (a.put o.dst (.bool true))) : o.quiet Try.prog a C K := by
  refine quiet_value (.bool true) (fun w _ => ?_) hk
  have e := key_eq g g w
  unfold execOp
  simp only [ho, hx, hy]
  simp [go_sem, e, h]
theorem quiet_load {o : Oper} {a : Act} {C : World → Prop} {K : Act → Prop} (x : Operand) (ho : o.op = .load 23 x) (B : Nat) (f : Nat → Nat)
    (hx : a.eval x = .pointer (some ⟨B, 0, none⟩)) (hB : ∀ w, C w → IntBlk w B .u8 23 (mk 16 f)) (hk : K (a.put o.dst (.agg (cellsOf .u8 (mk 16 f))))) : o.quiet Try.prog a C K := by
  refine quiet_value _ (fun w hw => ?_) hk
  unfold execOp
  simp only [ho, hx, Instr.loadAt, Instr.sureAddr, Sem.run_bind, Sem.run_pure, Result.andThen_ok, run_loadVar_row w B 23 23 _ (0, 0) _ (hB w hw) keyUnder rfl (keySize f)]
theorem quiet_build {o : Oper} {a : Act} {C : World → Prop} {K : Act → Prop} (n : Nat) (ho : o.op = .build 23 #[(0, .const (.int .u8 n))]) (f : Nat → Nat)
    (hf : Try.prog.built 23 [(0, .int .u8 n)] = some (cellsOf .u8 (mk 16 f))) (hk : K (a.put o.dst (.agg (cellsOf .u8 (mk 16 f))))) : o.quiet Try.prog a C K := by
  refine quiet_value _ (fun w _ => ?_) hk
  have e := run_build w 23 #[(0, .int .u8 n)] _ hf
  unfold execOp
  simp only [ho]
  simp [Act.eval, e]
theorem quiet_pick {o : Oper} {a : Act} {C : World → Prop} {K : Act → Prop} (c x y : Operand) (ho : o.op = .pick c x y) (hc : a.eval c = .bool true) (hx : a.eval x = .bool true) (hk : K (a.put o.dst (.bool true))) : o.quiet Try.prog a C K := by
  refine quiet_value _ (fun w _ => ?_) hk
  unfold execOp
  simp only [ho, hc, hx]
  simp [go_sem]
theorem quiet_calls {o : Oper} {a : Act} {C : World → Prop} {K : Act → Prop} (x : Operand) (xs : Array Operand) (ts : Array TypeId) (ho : o.op = .call { callee := .value x, args := xs, argTypes := ts }) (f : FuncId) (args : Array Value) (v : Value)
    (hx : a.eval x = .func (.func f) #[] #[]) (ha : xs.map a.eval = args) (hf : ∀ w, (callFunc f args).run Try.prog w = .ok (.enter f args) w)
    (hc : ∀ w, C w → Calls Try.prog f args w fun e w' => e = .returned v ∧ C w') (hk : K (a.put o.dst v)) : o.quiet Try.prog a C K := by
  refine quiet_call f args v (fun w => ?_) hc hk
  unfold execOp
  simp only [ho, resolve, hx, ha, Deferred.ofValue, Sem.run_bind, Sem.run_pure, Result.andThen_ok, invoke, Array.append_empty, Array.empty_append, hf w]
/-- A whole key stored, and the walk goes on. -/
theorem store_row_on {P : Program} {ops : Array Oper} {rest : List Oper} {o : Oper} {a : Act} {w : World} {Q : Exit → Act → World → Prop} (hgd : o.guard = none) (ty : TypeId) (x y : Operand) (ho : o.op = .store ty x y) (hd : o.dst = none)
    (g : Nat) (cells : Array Value) (hx : a.eval x = .pointer (some ⟨g, 0, none⟩)) (hy : a.eval y = .agg cells)
    (t : TypeId) (old : Array Value) (hg : w.heap[g]? = some (.cells old t (0, 0))) (hi : (P.info? ty).map (·.size) = some cells.size)
    (hold : old.size = cells.size) (h1 : cells.all (·.oneCell') = true)
    (h : wpList P ops Q rest a (w.setRow g cells)) : wpList P ops Q (o :: rest) a w :=
  wpList_store_row hgd ty x y ho g cells hx hy t old hg hi hold h1 (by rw [hd]; exact h)
/-- A call of a function of one key, and of two. -/
theorem quiet_key {o : Oper} {a : Act} {C : World → Prop} {K : Act → Prop} (x y : Operand) (ts : Array TypeId) (ho : o.op = .call { callee := .value x, args := #[y], argTypes := ts }) (g : FuncId) (hx : a.eval x = .func (.func g) #[] #[])
    (f : Nat → Nat) (hy : a.eval y = .agg (cellsOf .u8 (mk 16 f))) (r : Nat → Nat) (hf : ∀ (args : Array Value) (w : World), (callFunc g args).run Try.prog w = .ok (.enter g args) w)
    (hc : ∀ w, C w → Calls Try.prog g #[.agg (cellsOf .u8 (mk 16 f))] w fun e w' => e = .returned (.agg (cellsOf .u8 (mk 16 r))) ∧ C w') (hk : K (a.put o.dst (.agg (cellsOf .u8 (mk 16 r))))) : o.quiet Try.prog a C K :=
  quiet_calls x #[y] ts ho g _ _ hx (by simp only [List.map_toArray, List.map_cons, List.map_nil, hy]) (fun w => hf _ w) hc hk
theorem quiet_keys {o : Oper} {a : Act} {C : World → Prop} {K : Act → Prop} (x y z : Operand) (ts : Array TypeId) (ho : o.op = .call { callee := .value x, args := #[y, z], argTypes := ts }) (g : FuncId) (hx : a.eval x = .func (.func g) #[] #[])
    (f : Nat → Nat) (hy : a.eval y = .agg (cellsOf .u8 (mk 16 f))) (f' : Nat → Nat) (hz : a.eval z = .agg (cellsOf .u8 (mk 16 f'))) (r : Nat → Nat) (hf : ∀ (args : Array Value) (w : World), (callFunc g args).run Try.prog w = .ok (.enter g args) w)
    (hc : ∀ w, C w → Calls Try.prog g #[.agg (cellsOf .u8 (mk 16 f)), .agg (cellsOf .u8 (mk 16 f'))] w fun e w' => e = .returned (.agg (cellsOf .u8 (mk 16 r))) ∧ C w') (hk : K (a.put o.dst (.agg (cellsOf .u8 (mk 16 r))))) : o.quiet Try.prog a C K :=
  quiet_calls x #[y, z] ts ho g _ _ hx (by simp only [List.map_toArray, List.map_cons, List.map_nil, hy, hz]) (fun w => hf _ w) hc hk
/-- A key with one byte. -/
def oneK (n : Nat) : Nat → Nat := fun j => if j = 0 then n else 0
theorem oneK_key {n : Nat} (h : n < 256) : IsKey (oneK n) := fun j _ => by unfold oneK; split <;> omega
/-- Two bytes are compared. -/
theorem quiet_byte_eql {o : Oper} {a : Act} {C : World → Prop} {K : Act → Prop} (x y : Operand) (ho : o.op = .binOp .eql 5 x y 5) (b c : Int)
    (hx : a.eval x = .int .u8 b) (hy : a.eval y = .int .u8 c) (h : (b == c) = true) (hk : K (a.put o.dst (.bool true))) : o.quiet Try.prog a C K := by
  refine quiet_value (.bool true) (fun w _ => ?_) hk
  unfold execOp
  simp only [ho, hx, hy]
  simp [go_sem, h]
end Go.Proofs.Ytilfjmpoiiepkaa

/- Laws for the operations on words in regions whose order Go leaves open. No condition. -/
import Derived.Test.YtilfjmpoiiepkaaQuietS
import Derived.Test.YtilfjmpoiiepkaaWordS
namespace Go.Proofs.Ytilfjmpoiiepkaa
open Go.ChangeShapes Go.WideShapes Go.ChangeAt Go.RowKit

theorem word_eq (f g : Nat → Nat) (w : World) : (Op.equalIn 10000 26 (.agg (cellsOf .u8 (mk 4 f))) (.agg (cellsOf .u8 (mk 4 g)))).run Try.prog w = .ok (mk 4 f == mk 4 g) w :=
  run_equalIn_ints w 9998 (mk 4 f) (mk 4 g) (by rw [mk_len]; exact wordUnder) byteElem (by rw [mk_len, mk_len])
theorem quiet_word_eql {o : Oper} {a : Act} {C : World → Prop} {K : Act → Prop} (x y : Operand) (ho : o.op = .binOp .eql 26 x y 26) (f g : Nat → Nat)
    (hx : a.eval x = .agg (cellsOf .u8 (mk 4 f))) (hy : a.eval y = .agg (cellsOf .u8 (mk 4 g))) (h : mk 4 f = mk 4 g) (hk : K (a.put o.dst (.bool true))) : o.quiet Try.prog a C K := by
  refine quiet_value (.bool true) (fun w _ => ?_) hk
  have e := word_eq g g w
  unfold execOp
  simp only [ho, hx, hy]
  simp [go_sem, e, h]
theorem quiet_word_load {o : Oper} {a : Act} {C : World → Prop} {K : Act → Prop} (x : Operand) (ho : o.op = .load 26 x) (B : Nat) (f : Nat → Nat)
    (hx : a.eval x = .pointer (some ⟨B, 0, none⟩)) (hB : ∀ w, C w → IntBlk w B .u8 26 (mk 4 f)) (hk : K (a.put o.dst (.agg (cellsOf .u8 (mk 4 f))))) : o.quiet Try.prog a C K := by
  refine quiet_value _ (fun w hw => ?_) hk
  unfold execOp
  simp only [ho, hx, Instr.loadAt, Instr.sureAddr, Sem.run_bind, Sem.run_pure, Result.andThen_ok, run_loadVar_row w B 26 26 _ (0, 0) _ (hB w hw) wordUnder rfl (wordSize f)]
theorem word_built (n : Nat) : Try.prog.built 26 [(0, .int .u8 n)] = some (cellsOf .u8 (mk 4 (oneK n))) := by kernel_rfl
theorem quiet_word_build {o : Oper} {a : Act} {C : World → Prop} {K : Act → Prop} (x : Operand) (ho : o.op = .build 26 #[(0, x)]) (n : Nat) (hx : a.eval x = .int .u8 n)
    (hk : K (a.put o.dst (.agg (cellsOf .u8 (mk 4 (oneK n)))))) : o.quiet Try.prog a C K := by
  refine quiet_value _ (fun w _ => ?_) hk
  have e := run_build w 26 #[(0, .int .u8 n)] _ (word_built n)
  unfold execOp
  simp only [ho]
  simp [hx, e]
/-- A call of a function of one int. -/
theorem quiet_int {o : Oper} {a : Act} {C : World → Prop} {K : Act → Prop} (x y : Operand) (ts : Array TypeId) (ho : o.op = .call { callee := .value x, args := #[y], argTypes := ts }) (g : FuncId) (hx : a.eval x = .func (.func g) #[] #[])
    (i : Int) (hy : a.eval y = .int .i64 i) (r : Value) (hf : ∀ (args : Array Value) (w : World), (callFunc g args).run Try.prog w = .ok (.enter g args) w)
    (hc : ∀ w, C w → Calls Try.prog g #[.int .i64 i] w fun e w' => e = .returned r ∧ C w') (hk : K (a.put o.dst r)) : o.quiet Try.prog a C K :=
  quiet_calls x #[y] ts ho g _ _ hx (by simp only [List.map_toArray, List.map_cons, List.map_nil, hy]) (fun w => hf _ w) hc hk
/-- A call of a function of one word. -/
theorem quiet_word {o : Oper} {a : Act} {C : World → Prop} {K : Act → Prop} (x y : Operand) (ts : Array TypeId) (ho : o.op = .call { callee := .value x, args := #[y], argTypes := ts }) (g : FuncId) (hx : a.eval x = .func (.func g) #[] #[])
    (f : Nat → Nat) (hy : a.eval y = .agg (cellsOf .u8 (mk 4 f))) (r : Nat → Nat) (hf : ∀ (args : Array Value) (w : World), (callFunc g args).run Try.prog w = .ok (.enter g args) w)
    (hc : ∀ w, C w → Calls Try.prog g #[.agg (cellsOf .u8 (mk 4 f))] w fun e w' => e = .returned (.agg (cellsOf .u8 (mk 4 r))) ∧ C w') (hk : K (a.put o.dst (.agg (cellsOf .u8 (mk 4 r))))) : o.quiet Try.prog a C K :=
  quiet_calls x #[y] ts ho g _ _ hx (by simp only [List.map_toArray, List.map_cons, List.map_nil, hy]) (fun w => hf _ w) hc hk
/-- A place of an array of bytes by its index. -/
theorem quiet_place {o : Oper} {a : Act} {C : World → Prop} {K : Act → Prop} (t : TypeId) (n : Nat) (x y : Operand) (ho : o.op = .indexAddr t x y) (ht : Try.prog.underlying t = some (.array n 5)) (B k : Nat) (hx : a.eval x = .pointer (some ⟨B, 0, none⟩)) (hy : a.eval y = .int .i64 k) (hk4 : k < n)
    (hk : K (a.put o.dst (.pointer (some ⟨B, k, none⟩)))) : o.quiet Try.prog a C K := by
  refine quiet_value _ (fun w _ => ?_) hk
  have h0 : (k : Int) < n := by omega
  have hs := byteElem.run_size (P := Try.prog) w
  unfold execOp
  simp only [ho, hx, hy]
  simp [go_sem, ht, h0, hs]
theorem quiet_byte_load {o : Oper} {a : Act} {C : World → Prop} {K : Act → Prop} (x : Operand) (ho : o.op = .load 5 x) (B k : Nat) (v : Value)
    (hx : a.eval x = .pointer (some ⟨B, k, none⟩)) (hB : ∀ w, C w → w.cell? ⟨B, k, none⟩ = some v) (hk : K (a.put o.dst v)) : o.quiet Try.prog a C K := by
  refine quiet_value _ (fun w hw => ?_) hk
  have hc := hB w hw
  unfold execOp
  simp only [ho, hx]
  simp [go_sem, hc]
theorem quiet_byte_neq {o : Oper} {a : Act} {C : World → Prop} {K : Act → Prop} (x y : Operand) (ho : o.op = .binOp .neq 5 x y 5) (b c : Int)
    (hx : a.eval x = .int .u8 b) (hy : a.eval y = .int .u8 c) (h : (b != c) = false) (hk : K (a.put o.dst (.bool false))) : o.quiet Try.prog a C K := by
  refine quiet_value (.bool false) (fun w _ => ?_) hk
  unfold execOp
  simp only [ho, hx, hy]
  simp [go_sem, h]
theorem quiet_pick_no {o : Oper} {a : Act} {C : World → Prop} {K : Act → Prop} (c x y : Operand) (ho : o.op = .pick c x y) (hc : a.eval c = .bool false) (hy : a.eval y = .bool false) (hk : K (a.put o.dst (.bool false))) : o.quiet Try.prog a C K := by
  refine quiet_value _ (fun w _ => ?_) hk
  unfold execOp
  simp only [ho, hc, hy]
  simp [go_sem]
theorem quiet_int_add {o : Oper} {a : Act} {C : World → Prop} {K : Act → Prop} (x y : Operand) (ho : o.op = .binOp .add 3 x y 3) (i j r : Int) (hx : a.eval x = .int .i64 i) (hy : a.eval y = .int .i64 j)
    (h : IntKind.i64.wrap (i + j) = r) (hk : K (a.put o.dst (.int .i64 r))) : o.quiet Try.prog a C K := by
  refine quiet_value _ (fun w _ => ?_) hk
  unfold execOp
  simp only [ho, hx, hy]
  simp [go_sem, h]
theorem quiet_int_rem {o : Oper} {a : Act} {C : World → Prop} {K : Act → Prop} (x y : Operand) (ho : o.op = .binOp .rem 3 x y 3) (i j r : Int) (hx : a.eval x = .int .i64 i) (hy : a.eval y = .int .i64 j) (hj : j ≠ 0)
    (h : i.tmod j = r) (hk : K (a.put o.dst (.int .i64 r))) : o.quiet Try.prog a C K := by
  refine quiet_value _ (fun w _ => ?_) hk
  unfold execOp
  simp only [ho, hx, hy]
  simp [go_sem, h, hj]
end Go.Proofs.Ytilfjmpoiiepkaa

/- Laws for regions whose order Go leaves open: an array built of known parts, a pick that is true or false, arrays compared either way. No condition. -/
import Derived.Test.YtilfjmpoiiepkaaQuietW
namespace Go.Proofs.Ytilfjmpoiiepkaa
open Go.ChangeShapes Go.WideShapes Go.ChangeAt Go.RowKit

/-- An array of bytes, or a key, built of known parts. -/
theorem quiet_built {o : Oper} {a : Act} {C : World → Prop} {K : Act → Prop} (ty : TypeId) (xs : List (Nat × Operand)) (ho : o.op = .build ty ⟨xs⟩) (ys : List (Nat × Value)) (hx : xs.map (fun p => (p.1, a.eval p.2)) = ys) (n : Nat) (f : Nat → Nat)
    (hf : Try.prog.built ty ys = some (cellsOf .u8 (mk n f))) (hk : K (a.put o.dst (.agg (cellsOf .u8 (mk n f))))) : o.quiet Try.prog a C K := by
  refine quiet_value _ (fun w _ => ?_) hk
  have e := run_build w ty (xs.map (fun p => (p.1, a.eval p.2))).toArray (cellsOf .u8 (mk n f)) (by rw [hx]; exact hf)
  unfold execOp
  simp only [ho]
  rw [Sem.run_bind]
  simp only [List.map_toArray] at *
  rw [e]; rfl
theorem quiet_pick_true {o : Oper} {a : Act} {C : World → Prop} {K : Act → Prop} (c x y : Operand) (ho : o.op = .pick c x y) (hc : a.eval c = .bool false) (b : Bool) (hy : a.eval y = .bool b) (hk : K (a.put o.dst (.bool b))) : o.quiet Try.prog a C K := by
  refine quiet_value _ (fun w _ => ?_) hk
  unfold execOp
  simp only [ho, hc, hy]
  simp [go_sem]
theorem quiet_neq {o : Oper} {a : Act} {C : World → Prop} {K : Act → Prop} (x y : Operand) (ho : o.op = .binOp .neq 23 x y 23) (f g : Nat → Nat)
    (hx : a.eval x = .agg (cellsOf .u8 (mk 16 f))) (hy : a.eval y = .agg (cellsOf .u8 (mk 16 g))) (h : mk 16 f = mk 16 g) (hk : K (a.put o.dst (.bool false))) : o.quiet Try.prog a C K := by
  refine quiet_value (.bool false) (fun w _ => ?_) hk
  have e := key_eq g g w
  unfold execOp
  simp only [ho, hx, hy]
  simp [go_sem, e, h]
theorem quiet_word_neq {o : Oper} {a : Act} {C : World → Prop} {K : Act → Prop} (x y : Operand) (ho : o.op = .binOp .neq 26 x y 26) (f g : Nat → Nat)
    (hx : a.eval x = .agg (cellsOf .u8 (mk 4 f))) (hy : a.eval y = .agg (cellsOf .u8 (mk 4 g))) (h : mk 4 f = mk 4 g) (hk : K (a.put o.dst (.bool false))) : o.quiet Try.prog a C K := by
  refine quiet_value (.bool false) (fun w _ => ?_) hk
  have e := word_eq g g w
  unfold execOp
  simp only [ho, hx, hy]
  simp [go_sem, e, h]
/-- A call of a function of two words. -/
theorem quiet_words {o : Oper} {a : Act} {C : World → Prop} {K : Act → Prop} (x y z : Operand) (ts : Array TypeId) (ho : o.op = .call { callee := .value x, args := #[y, z], argTypes := ts }) (g : FuncId) (hx : a.eval x = .func (.func g) #[] #[])
    (f : Nat → Nat) (hy : a.eval y = .agg (cellsOf .u8 (mk 4 f))) (f' : Nat → Nat) (hz : a.eval z = .agg (cellsOf .u8 (mk 4 f'))) (r : Nat → Nat) (hf : ∀ (args : Array Value) (w : World), (callFunc g args).run Try.prog w = .ok (.enter g args) w)
    (hc : ∀ w, C w → Calls Try.prog g #[.agg (cellsOf .u8 (mk 4 f)), .agg (cellsOf .u8 (mk 4 f'))] w fun e w' => e = .returned (.agg (cellsOf .u8 (mk 4 r))) ∧ C w') (hk : K (a.put o.dst (.agg (cellsOf .u8 (mk 4 r))))) : o.quiet Try.prog a C K :=
  quiet_calls x #[y, z] ts ho g _ _ hx (by simp only [List.map_toArray, List.map_cons, List.map_nil, hy, hz]) (fun w => hf _ w) hc hk
/-- A call of a function that makes memory of its own alone, over the class of worlds in which nothing that was there has turned. -/
theorem class_of {W0 : World} {g : FuncId} {args : Array Value} {v : Value} (h : ∀ w, Calls Try.prog g args w fun e w' => e = .returned v ∧ Below w.heap.size w w') :
    ∀ w, Below W0.heap.size W0 w → Calls Try.prog g args w fun e w' => e = .returned v ∧ Below W0.heap.size W0 w' :=
  fun w hw => (h w).mono fun _ _ ⟨he, hb⟩ => ⟨he, hw.trans (hb.mono hw.size)⟩
end Go.Proofs.Ytilfjmpoiiepkaa

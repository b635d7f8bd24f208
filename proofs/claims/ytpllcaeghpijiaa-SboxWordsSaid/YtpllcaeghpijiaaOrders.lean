/- Regions whose order Go leaves open, by an invariant: what holds of the state after any of the operations that are over, in whatever order they came. Laws for single operations. Condition: what the invariant keeps. -/
import Derived.Test.YtpllcaeghpijiaaArr
import Derived.Orders
import Derived.Laws.Rows
namespace Go.Proofs.Ytpllcaeghpijiaa
open Go Go.RowKit

section
variable {P : Program} {ops : Array Oper} {md : Region.Mode} {Q : Exit → Act → World → Prop}
theorem wpAny_of_inv (J : Nat → Array Bool → Act → World → Prop) (h0 : ∀ L a w, J 0 L a w → Region.ready md ops L = [] ∧ Q .normal a w)
    (h1 : ∀ n L a w, J (n + 1) L a w → Region.ready md ops L ≠ [] ∧ ∀ i ∈ Region.ready md ops L, wpOp P ops Q i (J n (L.setIfInBounds i true)) a w) :
    ∀ (n : Nat) (L : Array Bool) (a : Act) (w : World), J n L a w → wpAny P md ops Q n L a w
  | 0, L, a, w, h => h0 L a w h
  | n + 1, L, a, w, h => ⟨fun e => absurd e (h1 n L a w h).1, fun i hi => wpOp_mono (fun a' w' h' => wpAny_of_inv J h0 h1 n _ a' w' h') ((h1 n L a w h).2 i hi)⟩
theorem wpOp_plain {i : Nat} {o : Oper} {a : Act} {w : World} {K : Act → World → Prop} (ho : ops[i]? = some o) (hg : o.guard = none) (h : o.wp P a w K Q) : wpOp P ops Q i K a w := by
  unfold wpOp
  simp only [ho]
  have hw : Region.wanted o (yielded ops a.tmps) = true := by simp [Region.wanted, hg]
  rw [if_pos hw]; exact .inl h
theorem wp_call_row {o : Oper} {a : Act} {w : World} {K : Act → World → Prop} (x y : Operand) (ts : Array TypeId) (hop : o.op = .call { callee := .value x, args := #[y], argTypes := ts }) (g : FuncId) (u : Value)
    (hx : a.eval x = .func (.func g) #[] #[]) (hy : a.eval y = u) (hf : (callFunc g #[u]).run P w = .ok (.enter g #[u]) w) (v : Value)
    (hc : Calls P g #[u] w fun e w' => e = .returned v ∧ K (a.put o.dst v) w') : o.wp P a w K Q := by
  unfold Oper.wp execOp
  simp only [hop, resolve, hx, List.map_toArray, List.map_cons, List.map_nil, hy, Deferred.ofValue, Sem.run_bind, Sem.run_pure, Result.andThen_ok, invoke, Array.append_empty, Array.empty_append, hf]
  exact hc.mono fun e w' ⟨he, hk⟩ => by subst he; exact hk
theorem wp_alloc_row {o : Oper} {a : Act} {w : World} {K : Act → World → Prop} (t : TypeId) (hop : o.op = .alloc t) (cells : Array Value) (hz : (zeroValue t).run P w = .ok (.agg cells) w)
    (h : K (a.put o.dst (.pointer (some ⟨w.heap.size, 0, none⟩))) (w.alloc (.cells cells t))) : o.wp P a w K Q := by
  unfold Oper.wp execOp
  simp only [hop]
  simp [go_sem, hz]
  exact h
end
end Go.Proofs.Ytpllcaeghpijiaa

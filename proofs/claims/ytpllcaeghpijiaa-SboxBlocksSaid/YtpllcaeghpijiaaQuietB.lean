/- Calls of package sbox's functions in regions whose order Go leaves open, over the class of worlds in which nothing that was there has turned. Conditions: the arguments' bytes are bytes. -/
import Derived.Test.YtpllcaeghpijiaaQuietS
import Derived.Test.YtpllcaeghpijiaaSubK
namespace Go.Proofs.Ytpllcaeghpijiaa
open Go.ChangeShapes Go.WideShapes Go.ChangeAt Go.RowKit

/-- A call of a function of one byte. -/
theorem quiet_byte {o : Oper} {a : Act} {C : World → Prop} {K : Act → Prop} (x y : Operand) (ts : Array TypeId) (ho : o.op = .call { callee := .value x, args := #[y], argTypes := ts }) (g : FuncId) (hx : a.eval x = .func (.func g) #[] #[])
    (b : Int) (hy : a.eval y = .int .u8 b) (r : Int) (hf : ∀ (args : Array Value) (w : World), (callFunc g args).run Try.prog w = .ok (.enter g args) w)
    (hc : ∀ w, C w → Calls Try.prog g #[.int .u8 b] w fun e w' => e = .returned (.int .u8 r) ∧ C w') (hk : K (a.put o.dst (.int .u8 r))) : o.quiet Try.prog a C K :=
  quiet_calls x #[y] ts ho g _ _ hx (by simp only [List.map_toArray, List.map_cons, List.map_nil, hy]) (fun w => hf _ w) hc hk
theorem call_sub (args : Array Value) (w : World) : (callFunc 9 args).run Try.prog w = .ok (.enter 9 args) w := by simp [go_sem]
theorem call_suball (args : Array Value) (w : World) : (callFunc 17 args).run Try.prog w = .ok (.enter 17 args) w := by simp [go_sem]
theorem call_backall (args : Array Value) (w : World) : (callFunc 18 args).run Try.prog w = .ok (.enter 18 args) w := by simp [go_sem]
theorem class_sub {C : World → Prop} {b : Int} (h0 : 0 ≤ b) (h1 : b ≤ 255) : ∀ w, C w → Calls Try.prog 9 #[.int .u8 b] w fun e w' => e = .returned (.int .u8 (subI b)) ∧ C w' :=
  fun w hw => (Sub_any b h0 h1 w).mono fun _ _ ⟨he, hb⟩ => ⟨he, hb ▸ hw⟩
theorem class_suball {W0 : World} {f : Nat → Nat} (hf : ∀ i, i < 16 → f i < 256) : ∀ w, Below W0.heap.size W0 w → Calls Try.prog 17 #[.agg (cellsOf .u8 (mk 16 f))] w fun e w' => e = .returned (.agg (cellsOf .u8 (mk 16 (fun i => subN (f i))))) ∧ Below W0.heap.size W0 w' :=
  fun w hw => (SubAll_any f hf w).mono fun _ _ ⟨he, hb⟩ => ⟨he, hw.trans (hb.mono hw.size)⟩
theorem class_backall {W0 : World} {f : Nat → Nat} (hf : ∀ i, i < 16 → f i < 256) : ∀ w, Below W0.heap.size W0 w → Calls Try.prog 18 #[.agg (cellsOf .u8 (mk 16 f))] w fun e w' => e = .returned (.agg (cellsOf .u8 (mk 16 (fun i => backN (f i))))) ∧ Below W0.heap.size W0 w' :=
  fun w hw => (BackAll_any f hf w).mono fun _ _ ⟨he, hb⟩ => ⟨he, hw.trans (hb.mono hw.size)⟩
end Go.Proofs.Ytpllcaeghpijiaa

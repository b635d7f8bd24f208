/- Laws for regions walked by one order, on sums and slices of slices: what only computes; a slice made of one; calls. No condition. -/
import Derived.Test.YtfjbehobpkmjbaaDoorSched
import Derived.Test.YtfjbehobpkmjbaaDoorDigLaw
namespace Go.Proofs.YtfjbehobpkmjbaaDoor
open Go.ChangeShapes Go.WideShapes Go.ChangeAt Go.RowKit

section
variable {o : Oper} {a : Act} {C : World → Prop} {K : Act → Prop}
theorem gives_row (ty : TypeId) (x : Operand) (ho : o.op = .load ty x) (B : Nat) (k : IntKind) (l : List Int) (hx : a.eval x = .pointer (some ⟨B, 0, none⟩)) (n : Nat) (e : TypeId) (hu : Tryd.prog.underlying ty = some (.array n e))
    (hi : (Tryd.prog.info? ty).map (·.size) = some (cellsOf k l).size) (hB : ∀ w, C w → IntBlk w B k ty l) (hk : K (a.put o.dst (.agg (cellsOf k l)))) : ∃ v, Gives Tryd.prog C o a v ∧ K (a.put o.dst v) :=
  ⟨_, fun w hw => by
    unfold execOp
    simp only [ho, hx, Instr.loadAt, Instr.sureAddr, Sem.run_bind, Sem.run_pure, Result.andThen_ok, run_loadVar_row w B ty ty _ (0, 0) _ (hB w hw) hu rfl hi], hk⟩
theorem gives_pick_bool (c x y : Operand) (ho : o.op = .pick c x y) (hc : a.eval c = .bool true) (v : Value) (hx : a.eval x = v) (hk : K (a.put o.dst v)) : ∃ v, Gives Tryd.prog C o a v ∧ K (a.put o.dst v) :=
  ⟨_, fun w _ => by
    unfold execOp
    simp only [ho, hc, hx]
    simp [go_sem], hk⟩
theorem gives_sum_eql (x y : Operand) (ho : o.op = .binOp .eql 30 x y 30) (f g : Nat → Nat) (hx : a.eval x = .agg (cellsOf .u8 (mk 32 f))) (hy : a.eval y = .agg (cellsOf .u8 (mk 32 g))) (h : (mk 32 f == mk 32 g) = true) (hk : K (a.put o.dst (.bool true))) : ∃ v, Gives Tryd.prog C o a v ∧ K (a.put o.dst v) :=
  ⟨.bool true, fun w _ => by
    have e := sum_eq f g w
    unfold execOp
    simp only [ho, hx, hy]
    simp [go_sem, e, h], hk⟩
theorem gives_sum_index (x y : Operand) (ho : o.op = .index 30 x y) (f : Nat → Nat) (k : Nat) (hx : a.eval x = .agg (cellsOf .u8 (mk 32 f))) (z : Int) (hy : a.eval y = .int .i64 z) (hz : z = k) (hk32 : k < 32) (v : Int) (hv : (f k : Int) = v) (hk : K (a.put o.dst (.int .u8 v))) : ∃ v, Gives Tryd.prog C o a v ∧ K (a.put o.dst v) := by
  subst hz; subst hv
  exact ⟨_, fun w _ => by
    have e := run_index_at (P := Tryd.prog) 30 32 f sumUnder byteElem hk32 w
    unfold execOp
    simp only [ho, hx, hy]
    simp [e], hk⟩
theorem gives_u8_eql (x y : Operand) (ho : o.op = .binOp .eql 5 x y 5) (b c : Int) (r : Bool) (hx : a.eval x = .int .u8 b) (hy : a.eval y = .int .u8 c) (h : (b == c) = r) (hk : K (a.put o.dst (.bool r))) : ∃ v, Gives Tryd.prog C o a v ∧ K (a.put o.dst v) :=
  ⟨_, fun w _ => by
    unfold execOp
    simp only [ho, hx, hy]
    simp [go_sem, ← h], hk⟩
end
theorem done_call1 {o : Oper} {a : Act} {w : World} {K : Value → World → Prop} (x y : Operand) (ts : Array TypeId) (ho : o.op = .call { callee := .value x, args := #[y], argTypes := ts }) (g : FuncId) (hx : a.eval x = .func (.func g) #[] #[])
    (u : Value) (hy : a.eval y = u) (hf : ∀ (args : Array Value) (w : World), (callFunc g args).run Tryd.prog w = .ok (.enter g args) w) (r : Value)
    (hc : Calls Tryd.prog g #[u] w fun e w' => e = .returned r ∧ Below w.heap.size w w') (hk : ∀ w', Below w.heap.size w w' → K r w') : doneAt Tryd.prog o a w K :=
  done_call x #[y] ts ho g #[u] hx (by simp only [List.map_toArray, List.map_cons, List.map_nil, hy]) (hf _ w) (hc.mono fun _ w' ⟨he, hb⟩ => ⟨r, he, hk w' hb⟩)
theorem run_slice1 (p : Option Addr) (n cap : Nat) (w : World) : (Instr.buildSlice 46 1 #[(0, .slice p n cap)]).run Tryd.prog w = .ok (.slice (some ⟨w.heap.size, 0, none⟩) 1 1) (w.alloc (.cells #[.slice p n cap] 22)) := by
  simp [go_sem]
theorem done_slice1 {o : Oper} {a : Act} {w : World} {K : Value → World → Prop} (x : Operand) (ho : o.op = .buildSlice 46 1 #[(0, x)]) (p : Option Addr) (n cap : Nat) (hx : a.eval x = .slice p n cap)
    (h : K (.slice (some ⟨w.heap.size, 0, none⟩) 1 1) (w.alloc (.cells #[.slice p n cap] 22))) : doneAt Tryd.prog o a w K := by
  have e := run_slice1 p n cap w
  unfold doneAt execOp
  simp only [ho]
  simp [hx, e]
  exact h
end Go.Proofs.YtfjbehobpkmjbaaDoor

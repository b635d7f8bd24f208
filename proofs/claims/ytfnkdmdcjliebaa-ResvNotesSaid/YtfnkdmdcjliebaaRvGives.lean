/- Operations of drawn regions over reservations. Conditions: as each says. -/
import Derived.Test.YtfnkdmdcjliebaaRvRefA
namespace Go.Proofs.Ytfnkdmdcjliebaa
open Go.ChangeShapes Go.WideShapes Go.ChangeAt Go.RowKit
set_option linter.unusedVariables false
theorem box_regs (w : World) : (isAgg rgS).run Try.prog w = .ok false w := by simp [go_sem, rgS]
theorem box_bool (w : World) : (isAgg 4).run Try.prog w = .ok false w := by simp [go_sem]
section
variable {o : Oper} {a : Act} {C : World → Prop} {K : Act → Prop}
theorem gives_rvfield (x : Operand) (k : Nat) (ho : o.op = .fieldAddr rvT x k) (hk5 : k < 5) (B : Nat) (hx : a.eval x = .pointer (some ⟨B, 0, none⟩)) (hk : K (a.put o.dst (.pointer (some ⟨B, k, none⟩)))) : ∃ v, Gives Try.prog C o a v ∧ K (a.put o.dst v) :=
  ⟨_, fun w _ => by
    unfold execOp
    simp only [ho, hx]
    rcases k with _ | _ | _ | _ | _ | k
    all_goals first | (exfalso; omega) | simp [go_sem], hk⟩
theorem gives_rg_who (x : Operand) (ho : o.op = .fieldAddr rgT x 0) (B off : Nat) (hx : a.eval x = .pointer (some ⟨B, off, none⟩)) (hk : K (a.put o.dst (.pointer (some ⟨B, off, none⟩)))) : ∃ v, Gives Try.prog C o a v ∧ K (a.put o.dst v) :=
  ⟨_, fun w _ => by
    unfold execOp
    simp only [ho, hx]
    simp [go_sem], hk⟩
theorem gives_rg_key (x : Operand) (ho : o.op = .fieldAddr rgT x 1) (B off : Nat) (hx : a.eval x = .pointer (some ⟨B, off, none⟩)) (hk : K (a.put o.dst (.pointer (some ⟨B, off + 1, none⟩)))) : ∃ v, Gives Try.prog C o a v ∧ K (a.put o.dst v) :=
  ⟨_, fun w _ => by
    unfold execOp
    simp only [ho, hx]
    simp [go_sem, addr_add], hk⟩
theorem gives_len_regs (x : Operand) (ho : o.op = .call { callee := .builtin .len, args := #[x], argTypes := #[rgS] }) (p : Option Addr) (n c : Nat) (hx : a.eval x = .slice p n c) (hk : K (a.put o.dst (.int .i64 n))) : ∃ v, Gives Try.prog C o a v ∧ K (a.put o.dst v) :=
  ⟨_, fun w _ => by
    have e : (Builtin.len_ #[rgS] o.type #[.slice p n c]).run Try.prog w = .ok (.int .i64 n) w := by simp [go_sem]
    unfold execOp
    simp [ho, resolve, invoke, builtin, hx, e, Result.andThen], hk⟩
theorem gives_int_atleast (x y : Operand) (ho : o.op = .binOp .geq 3 x y 3) (i j : Int) (hx : a.eval x = .int .i64 i) (hy : a.eval y = .int .i64 j) (v : Bool) (hv : decide (j ≤ i) = v) (hk : K (a.put o.dst (.bool v))) : ∃ v, Gives Try.prog C o a v ∧ K (a.put o.dst v) :=
  ⟨_, fun w _ => by
    subst hv
    unfold execOp
    simp only [ho, hx, hy]
    simp [go_sem], hk⟩
theorem gives_int_isnt (x y : Operand) (ho : o.op = .binOp .neq 3 x y 3) (i j : Int) (hx : a.eval x = .int .i64 i) (hy : a.eval y = .int .i64 j) (v : Bool) (hv : (i != j) = v) (hk : K (a.put o.dst (.bool v))) : ∃ v, Gives Try.prog C o a v ∧ K (a.put o.dst v) :=
  ⟨_, fun w _ => by
    subst hv
    unfold execOp
    simp only [ho, hx, hy]
    simp [go_sem], hk⟩
end
end Go.Proofs.Ytfnkdmdcjliebaa

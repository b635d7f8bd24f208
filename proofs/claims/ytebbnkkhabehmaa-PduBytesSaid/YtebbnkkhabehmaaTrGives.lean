/- Operations in drawn regions: loads of one cell, fields, picks, comparisons, appends. Conditions: as each says. -/
import Derived.Test.YtebbnkkhabehmaaTrVal
namespace Go.Proofs.Ytebbnkkhabehmaa
open Go.ChangeShapes Go.WideShapes Go.ChangeAt Go.RowKit
set_option linter.unusedVariables false
section
variable {o : Oper} {a : Act} {C : World → Prop} {K : Act → Prop}
theorem box_int (w : World) : (isAgg 3).run Try.prog w = .ok false w := by simp [go_sem]
theorem box_bytes (w : World) : (isAgg 22).run Try.prog w = .ok false w := by simp [go_sem]
theorem gives_cell (t : TypeId) (x : Operand) (ho : o.op = .load t x) (p : Addr) (v : Value) (hx : a.eval x = .pointer (some p)) (hu : ∀ w, (isAgg t).run Try.prog w = .ok false w) (hc : ∀ w, C w → w.cell? p = some v) (hk : K (a.put o.dst v)) : ∃ v, Gives Try.prog C o a v ∧ K (a.put o.dst v) :=
  ⟨_, fun w hw => by
    unfold execOp
    simp only [ho, hx]
    simp [go_sem, hc w hw, hu], hk⟩
theorem gives_not2 (x : Operand) (t : TypeId) (ho : o.op = .unOp .not t x) (b v : Bool) (hv : (!b) = v) (hx : a.eval x = .bool b) (hk : K (a.put o.dst (.bool v))) : ∃ v, Gives Try.prog C o a v ∧ K (a.put o.dst v) :=
  ⟨_, fun w _ => by
    subst hv
    unfold execOp
    simp only [ho, hx]
    simp [go_sem], hk⟩
theorem gives_pickF (c x y : Operand) (ho : o.op = .pick c x y) (hc : a.eval c = .bool false) (v : Value) (hy : a.eval y = v) (hk : K (a.put o.dst v)) : ∃ v, Gives Try.prog C o a v ∧ K (a.put o.dst v) :=
  ⟨_, fun w _ => by
    unfold execOp
    simp only [ho, hc, hy]
    simp [go_sem], hk⟩
theorem gives_pickT (c x y : Operand) (ho : o.op = .pick c x y) (hc : a.eval c = .bool true) (v : Value) (hx : a.eval x = v) (hk : K (a.put o.dst v)) : ∃ v, Gives Try.prog C o a v ∧ K (a.put o.dst v) :=
  ⟨_, fun w _ => by
    unfold execOp
    simp only [ho, hc, hx]
    simp [go_sem], hk⟩
theorem gives_int_is (x y : Operand) (ho : o.op = .binOp .eql 3 x y 3) (i j : Int) (hx : a.eval x = .int .i64 i) (hy : a.eval y = .int .i64 j) (v : Bool) (hv : (i == j) = v) (hk : K (a.put o.dst (.bool v))) : ∃ v, Gives Try.prog C o a v ∧ K (a.put o.dst v) :=
  ⟨_, fun w _ => by
    subst hv
    unfold execOp
    simp only [ho, hx, hy]
    simp [go_sem], hk⟩
theorem gives_int_less (x y : Operand) (ho : o.op = .binOp .lss 3 x y 3) (i j : Int) (hx : a.eval x = .int .i64 i) (hy : a.eval y = .int .i64 j) (v : Bool) (hv : decide (i < j) = v) (hk : K (a.put o.dst (.bool v))) : ∃ v, Gives Try.prog C o a v ∧ K (a.put o.dst v) :=
  ⟨_, fun w _ => by
    subst hv
    unfold execOp
    simp only [ho, hx, hy]
    simp [go_sem], hk⟩
theorem gives_int_over (x y : Operand) (ho : o.op = .binOp .gtr 3 x y 3) (i j : Int) (hx : a.eval x = .int .i64 i) (hy : a.eval y = .int .i64 j) (v : Bool) (hv : decide (j < i) = v) (hk : K (a.put o.dst (.bool v))) : ∃ v, Gives Try.prog C o a v ∧ K (a.put o.dst v) :=
  ⟨_, fun w _ => by
    subst hv
    unfold execOp
    simp only [ho, hx, hy]
    simp [go_sem], hk⟩
theorem gives_int_most (x y : Operand) (ho : o.op = .binOp .leq 3 x y 3) (i j : Int) (hx : a.eval x = .int .i64 i) (hy : a.eval y = .int .i64 j) (v : Bool) (hv : decide (i ≤ j) = v) (hk : K (a.put o.dst (.bool v))) : ∃ v, Gives Try.prog C o a v ∧ K (a.put o.dst v) :=
  ⟨_, fun w _ => by
    subst hv
    unfold execOp
    simp only [ho, hx, hy]
    simp [go_sem], hk⟩
theorem gives_int_sum (x y : Operand) (ho : o.op = .binOp .add 3 x y 3) (i j v : Int) (hx : a.eval x = .int .i64 i) (hy : a.eval y = .int .i64 j) (hv : IntKind.i64.wrap (i + j) = v) (hk : K (a.put o.dst (.int .i64 v))) : ∃ v, Gives Try.prog C o a v ∧ K (a.put o.dst v) :=
  ⟨_, fun w _ => by
    subst hv
    unfold execOp
    simp only [ho, hx, hy]
    simp [go_sem], hk⟩
theorem gives_int_less1 (x y : Operand) (ho : o.op = .binOp .sub 3 x y 3) (i j v : Int) (hx : a.eval x = .int .i64 i) (hy : a.eval y = .int .i64 j) (hv : IntKind.i64.wrap (i - j) = v) (hk : K (a.put o.dst (.int .i64 v))) : ∃ v, Gives Try.prog C o a v ∧ K (a.put o.dst v) :=
  ⟨_, fun w _ => by
    subst hv
    unfold execOp
    simp only [ho, hx, hy]
    simp [go_sem], hk⟩
end
section
variable {ops : Array Oper} {C : World → Prop} {R : Act → World → Prop} {i : Nat} {l : List (Nat × Bool)} {a : Act} {w : World} {o : Oper}
theorem walk_off (hi : ops[i]? = some o) (hw : Region.wanted o (yielded ops a.tmps) = false) (h : walkS Try.prog ops C R l (a.put o.dst undef) w) : walkS Try.prog ops C R ((i, true) :: l) a w :=
  ⟨o, undef, hi, .inr ⟨hw, rfl⟩, h⟩
theorem walk_off' (hi : ops[i]? = some o) (hw : Region.wanted o (yielded ops a.tmps) = false) (h : walkS Try.prog ops C R l (a.put o.dst undef) w) : walkS Try.prog ops C R ((i, false) :: l) a w :=
  ⟨o, hi, .inr ⟨hw, h⟩⟩
end
theorem exec_build {P : Program} {o : Oper} {a : Act} (ty : TypeId) (xs : Array (Nat × Operand)) (ys : Array (Nat × Value)) (v : Value) (ho : o.op = .build ty xs) (hx : xs.map (fun (i, x) => (i, a.eval x)) = ys) (hr : ∀ w, (Instr.build ty ys).run P w = .ok v w) (w : World) : (execOp a.eval o).run P w = .ok (.value v) w := by
  unfold execOp
  simp only [ho]
  rw [Sem.run_bind, hx, hr]; rfl
theorem wpList_build_any {P : Program} {ops : Array Oper} {rest : List Oper} {o : Oper} {a : Act} {w : World} {Q : Exit → Act → World → Prop} (hgd : o.guard = none) (ty : TypeId) (xs : Array (Nat × Operand)) (ys : Array (Nat × Value)) (v : Value) (ho : o.op = .build ty xs) (hx : xs.map (fun (i, x) => (i, a.eval x)) = ys) (hr : ∀ w, (Instr.build ty ys).run P w = .ok v w)
    (h : wpList P ops Q rest (a.put o.dst v) w) : wpList P ops Q (o :: rest) a w :=
  wpList_plain hgd fun _ hK => by
    unfold Oper.wp
    rw [exec_build ty xs ys v ho hx hr w]
    exact hK _ _ h
theorem gives_build_any {P : Program} {o : Oper} {a : Act} {C : World → Prop} {K : Act → Prop} (ty : TypeId) (xs : Array (Nat × Operand)) (ys : Array (Nat × Value)) (v : Value) (ho : o.op = .build ty xs) (hx : xs.map (fun (i, x) => (i, a.eval x)) = ys) (hr : ∀ w, (Instr.build ty ys).run P w = .ok v w) (hk : K (a.put o.dst v)) : ∃ v, Gives P C o a v ∧ K (a.put o.dst v) :=
  ⟨_, fun w _ => exec_build ty xs ys v ho hx hr w, hk⟩
theorem done_append_list {α : Type} {P : Program} {o : Oper} {a : Act} {w : World} {K : Value → World → Prop} {t e : TypeId} {sz by' : Nat} {C : α → List Value} (E : ElemOf P t e sz by' C) (s x : Operand) (ho : o.op = .call { callee := .builtin .append, args := #[s, x], argTypes := #[t, t] }) (base top : Nat) (v : Value) (l m : List α) (p : Option Addr) (n c : Nat) (hs : a.eval s = v) (hx : a.eval x = .slice p n c) (hn : n = m.length)
    (hv : OwnL e sz C w base top v l) (hm : RowsAt sz C w p m) (hk : l.length + m.length ≤ 4000000) (hby : by' ≤ 1000) (hbase : base ≤ w.heap.size)
    (h : ∀ v' w', OwnL e sz C w' base w'.heap.size v' (l ++ m) → w.grownBy w' v.ownBlock → (v'.ownBlock = v.ownBlock ∨ v'.ownBlock = some w.heap.size) → K v' w') : doneAt P o a w K := by
  subst hn
  obtain ⟨v', w', hrun, r1, r2, r3⟩ := run_append_list E o.type base top v l m p c hv hm hk hby hbase
  unfold doneAt
  simp [execOp, ho, resolve, invoke, builtin, hs, hx, hrun, Result.andThen]
  exact h v' w' r1 r2 r3
theorem run_list0 {α : Type} {P : Program} {t e : TypeId} {sz by' : Nat} {C : α → List Value} (E : ElemOf P t e sz by' C) (w : World) : (Instr.buildSlice t 0 #[]).run P w = .ok (.slice (some ⟨w.heap.size, 0, none⟩) 0 0) (w.alloc (.cells #[] e)) := by
  have hi := E.size
  cases hq : P.info? e with
  | none => rw [hq] at hi; simp at hi
  | some i => simp [Instr.buildSlice, run_underlying E.under, sizeOf, typeInfo, hq, Instr.fill, newRow]; rw [show Array.map (fun _ => (default : Value)) (Array.range 0) = #[] from Array.eq_empty_of_size_eq_zero (by simp)]
theorem wpList_list0 {α : Type} {P : Program} {t e : TypeId} {sz by' : Nat} {C : α → List Value} (E : ElemOf P t e sz by' C) {ops : Array Oper} {rest : List Oper} {o : Oper} {a : Act} {w : World} {Q : Exit → Act → World → Prop} (hgd : o.guard = none) (ho : o.op = .buildSlice t 0 #[])
    (h : wpList P ops Q rest (a.put o.dst (.slice (some ⟨w.heap.size, 0, none⟩) 0 0)) (w.alloc (.cells #[] e))) : wpList P ops Q (o :: rest) a w :=
  wpList_plain hgd fun _ hK => by
    have e := run_list0 E w
    unfold Oper.wp execOp
    simp only [ho]
    simp [e]
    exact hK _ _ h
end Go.Proofs.Ytebbnkkhabehmaa

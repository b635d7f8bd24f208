/- Operations in drawn regions over lines: fields, loads and stores of slots. Conditions: as each says. -/
import Derived.Test.YtlaclakndleonaaCaRefD
namespace Go.Proofs.Ytlaclakndleonaa
open Go.ChangeShapes Go.WideShapes Go.ChangeAt Go.RowKit
set_option linter.unusedVariables false
theorem done_load_box {o : Oper} {a : Act} {w : World} {K : Value → World → Prop} (t : TypeId) (x : Operand) (ho : o.op = .load t x) (p : Addr) (v : Value) (hx : a.eval x = .pointer (some p)) (hu : ∀ w, (isAgg t).run Try.prog w = .ok false w) (hc : w.cell? p = some v) (h : K v w) : doneAt Try.prog o a w K := by
  unfold doneAt execOp
  simp only [ho, hx]
  simp [go_sem, hc, hu]
  exact h
theorem done_store_lines {o : Oper} {a : Act} {w : World} {K : Value → World → Prop} (x y : Operand) (ho : o.op = .store 34 x y) (p : Addr) (v : Value) (q : Option Addr) (n c : Nat) (hv : v = .slice q n c) (hx : a.eval x = .pointer (some p)) (hy : a.eval y = v) (old : Value) (hc : w.cell? p = some old) (hf : w.frozen? p = false)
    (h : K undef (w.setCell p v)) : doneAt Try.prog o a w K := by
  subst hv
  unfold doneAt execOp
  simp only [ho, hx, hy]
  simp [go_sem, hc, hf]
  exact h
theorem box_lines (w : World) : (isAgg 34).run Try.prog w = .ok false w := by simp [go_sem]
theorem box_bool (w : World) : (isAgg 4).run Try.prog w = .ok false w := by simp [go_sem]
section
variable {o : Oper} {a : Act} {C : World → Prop} {K : Act → Prop}
theorem gives_nil_check (x : Operand) (ho : o.op = .nilCheck x) (p : Addr) (hx : a.eval x = .pointer (some p)) (hk : K (a.put o.dst (.pointer (some p)))) : ∃ v, Gives Try.prog C o a v ∧ K (a.put o.dst v) :=
  ⟨_, fun w _ => by
    unfold execOp
    simp only [ho, hx]
    simp [go_sem], hk⟩
theorem gives_cfield (x : Operand) (k : Nat) (ho : o.op = .fieldAddr 36 x k) (hk7 : k < 2) (B : Nat) (hx : a.eval x = .pointer (some ⟨B, 0, none⟩)) (hk : K (a.put o.dst (.pointer (some ⟨B, k, none⟩)))) : ∃ v, Gives Try.prog C o a v ∧ K (a.put o.dst v) :=
  ⟨_, fun w _ => by
    unfold execOp
    simp only [ho, hx]
    rcases k with _ | _ | k
    all_goals first | (exfalso; omega) | simp [go_sem], hk⟩
theorem gives_len_lines (x : Operand) (ho : o.op = .call { callee := .builtin .len, args := #[x], argTypes := #[34] }) (p : Option Addr) (n c : Nat) (hx : a.eval x = .slice p n c) (hk : K (a.put o.dst (.int .i64 n))) : ∃ v, Gives Try.prog C o a v ∧ K (a.put o.dst v) :=
  ⟨_, fun w _ => by
    have e : (Builtin.len_ #[34] o.type #[.slice p n c]).run Try.prog w = .ok (.int .i64 n) w := by simp [go_sem]
    unfold execOp
    simp [ho, resolve, invoke, builtin, hx, e, Result.andThen], hk⟩
theorem gives_int_atleast (x y : Operand) (ho : o.op = .binOp .geq 3 x y 3) (i j : Int) (hx : a.eval x = .int .i64 i) (hy : a.eval y = .int .i64 j) (v : Bool) (hv : decide (j ≤ i) = v) (hk : K (a.put o.dst (.bool v))) : ∃ v, Gives Try.prog C o a v ∧ K (a.put o.dst v) :=
  ⟨_, fun w _ => by
    subst hv
    unfold execOp
    simp only [ho, hx, hy]
    simp [go_sem], hk⟩
end
/-- What a call leaves of the document's cache: the lines ls'; all blocks but its own stand, and what it owns is its own or new. -/
def RefTo (w w' : World) (B : Nat) (q : Int) (v : Value) (ls' : List LineOf) : Prop := ∃ v', RefC w' B q v' ls' ∧ Keeps (refS B v) w w' ∧ ∀ k, refS B v' k → refS B v k ∨ w.heap.size ≤ k
theorem RefC.self {w : World} {B : Nat} {q : Int} {v : Value} {ls : List LineOf} (h : RefC w B q v ls) : RefTo w w B q v ls := ⟨v, h, .refl _ _, fun _ hk => .inl hk⟩
theorem RefTo.trans {w w1 w2 : World} {B : Nat} {q : Int} {v : Value} {ls1 ls2 : List LineOf} (h : RefTo w w1 B q v ls1) (k : ∀ v1, RefC w1 B q v1 ls1 → RefTo w1 w2 B q v1 ls2) : RefTo w w2 B q v ls2 := by
  obtain ⟨v1, h1, h2, h3⟩ := h
  obtain ⟨v2, k1, k2, k3⟩ := k v1 h1
  refine ⟨v2, k1, h2.trans' ⟨k2.os, k2.tape, k2.output, k2.size, fun i hi hn => k2.block i (Nat.lt_of_lt_of_le hi h2.size) (fun e => ?_)⟩, fun i hi => ?_⟩
  · rcases h3 i e with e | e
    · exact hn e
    · omega
  · rcases k3 i hi with e | e
    · exact h3 i e
    · exact .inr (Nat.le_trans h2.size e)
theorem RefTo.of_out {w w' : World} {B : Nat} {q : Int} {v v' : Value} {ls' : List LineOf} (h1 : RefC w' B q v' ls') (h2 : Keeps (fun k => k = B) w w') (h3 : ∀ k, v'.ownBlock = some k → w.heap.size ≤ k) : RefTo w w' B q v ls' :=
  ⟨v', h1, h2.mono fun k _ e => .inl e, fun k hk => by
    rcases hk with e | e
    · exact .inl (.inl e)
    · exact .inr (h3 k e)⟩
/-- A line is appended, and the lines' slice laid in the struct. -/
theorem ref_app {w w2 w3 : World} {B : Nat} {q : Int} {v v' : Value} {ls ls' : List LineOf} (h : RefC w B q v ls) (hb : Below w.heap.size w w2) (ho : OwnL 42 131 lineC w3 0 w3.heap.size v' ls') (hg : w2.grownBy w3 v.ownBlock) (hr : v'.ownBlock = v.ownBlock ∨ v'.ownBlock = some w2.heap.size) (hk : ∀ l ∈ ls', l.ok) (hf : ls'.length ≤ 1000) :
    w3.heap[B]? = some (.cells #[.int .i64 q, v] 36 (0, 0)) ∧ RefTo w (w3.setCell ⟨B, 1, none⟩ v') B q v ls' := by
  have hB : w3.heap[B]? = w.heap[B]? := (hg.block B (Nat.lt_of_lt_of_le h.lt hb.size) (fun e => h.ne e.symm)).trans (hb.block B h.lt)
  have hb1 := heap_setCell_same w3 B 1 _ _ v' (hB.trans h.box)
  have hsz : (w3.setCell ⟨B, 1, none⟩ v').heap.size = w3.heap.size := by simp [World.setCell]
  have oth : ∀ k, k ≠ B → (w3.setCell ⟨B, 1, none⟩ v').heap[k]? = w3.heap[k]? := fun k hk => Below.heap_setCell _ _ _ k (fun e => hk e)
  have hvb : v'.ownBlock ≠ some B := fun e => by
    rcases hr with e' | e'
    · exact h.ne (e'.symm.trans e)
    · rw [e'] at e; cases e; have := h.lt; have := hb.size; omega
  refine ⟨hB.trans h.box, v', ⟨hb1, ?_, hvb, hk, hf⟩, ?_, fun k hk => ?_⟩
  · rw [hsz]
    rcases ho with h1 | ⟨L, c, cur, h1, h2, h3, h4, h5⟩
    · exact .inl h1
    · exact .inr ⟨L, c, cur, h1, h2, h3, (oth L (fun e => hvb (by rw [h1, ← e]; rfl))).trans h4, h5⟩
  · have h1 : Keeps (refS B v) w w2 := Keeps.of hb
    have h2 : Keeps (refS B v) w w3 := h1.grownL hg (fun k hk _ => .inr hk)
    exact Keeps.setCell (S := refS B v) h2 (B := B) (.inl rfl) 1 v'
  · rcases hk with e | e
    · exact .inl (.inl e)
    · rcases hr with e' | e'
      · exact .inl (.inr (e'.symm.trans e))
      · rw [e'] at e; cases e; exact .inr hb.size
end Go.Proofs.Ytlaclakndleonaa

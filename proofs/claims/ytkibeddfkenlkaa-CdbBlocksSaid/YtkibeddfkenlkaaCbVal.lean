/- Commands in memory: operations and commands as values and in boxes, rows of numbers. Conditions: as each says. -/
import Derived.Test.YtkibeddfkenlkaaCbNum
namespace Go.Proofs.Ytkibeddfkenlkaa
open Go.ChangeShapes Go.WideShapes Go.ChangeAt Go.RowKit
set_option linter.unusedVariables false
set_option linter.unusedSimpArgs false
abbrev cmT : TypeId := 26
abbrev roT : TypeId := 24
def ropC (o : ROp) : List Value := [.int .i64 o.op, .int .i64 o.who, .int .i64 o.key, .int .i64 o.new, .int .i64 o.ty, .bool o.s]
/-- An operation as a value. -/
def ropA (o : ROp) : Array Value := #[.int .i64 o.op, .int .i64 o.who, .int .i64 o.key, .int .i64 o.new, .int .i64 o.ty, .bool o.s]
/-- A command as a value; the Data's slice is what it is. -/
def cmA (q : Option Addr) (n c : Nat) (x : CmdOf) : Array Value := #[.int .i64 x.k, .int .i64 x.u, .int .i64 x.b, .int .i64 x.m, .slice q n c, .int .i64 x.o.op, .int .i64 x.o.who, .int .i64 x.o.key, .int .i64 x.o.new, .int .i64 x.o.ty, .bool x.o.s]
theorem cmA_size (q : Option Addr) (n c : Nat) (x : CmdOf) : (cmA q n c x).size = 11 := rfl
theorem cmA_one (q : Option Addr) (n c : Nat) (x : CmdOf) : (cmA q n c x).all (·.oneCell') = true := by simp [cmA, Value.oneCell']
theorem ropA_size (o : ROp) : (ropA o).size = 6 := rfl
theorem rowCm : IsRow cmT 11 (cmA none 0 0 zeroCm) := ⟨⟨_, Try.underlying26, rfl⟩, by kernel_rfl, by kernel_rfl, rfl⟩
theorem rowOp : IsRow roT 6 (ropA zeroOp) := ⟨⟨_, Try.underlying24, rfl⟩, by kernel_rfl, by kernel_rfl, rfl⟩
theorem ropA_one (o : ROp) : (ropA o).all (·.oneCell') = true := by simp [ropA, Value.oneCell']
theorem boxCm {W : World} {O : Nat} {q : Option Addr} {n c : Nat} {x : CmdOf} (h : BoxA W O cmT (cmA q n c x)) : W.cell? ⟨O, 0, none⟩ = some (.int .i64 x.k) ∧ W.cell? ⟨O, 1, none⟩ = some (.int .i64 x.u) ∧ W.cell? ⟨O, 2, none⟩ = some (.int .i64 x.b) ∧ W.cell? ⟨O, 3, none⟩ = some (.int .i64 x.m) ∧ W.cell? ⟨O, 4, none⟩ = some (.slice q n c) ∧ W.cell? ⟨O, 10, none⟩ = some (.bool x.o.s) := ⟨h.cell 0, h.cell 1, h.cell 2, h.cell 3, h.cell 4, h.cell 10⟩
theorem boxCmO {W : World} {O : Nat} {q : Option Addr} {n c : Nat} {x : CmdOf} (h : BoxA W O cmT (cmA q n c x)) : W.cell? ⟨O, 5, none⟩ = some (.int .i64 x.o.op) ∧ W.cell? ⟨O, 6, none⟩ = some (.int .i64 x.o.who) ∧ W.cell? ⟨O, 7, none⟩ = some (.int .i64 x.o.key) ∧ W.cell? ⟨O, 8, none⟩ = some (.int .i64 x.o.new) ∧ W.cell? ⟨O, 9, none⟩ = some (.int .i64 x.o.ty) := ⟨h.cell 5, h.cell 6, h.cell 7, h.cell 8, h.cell 9⟩
theorem boxRo {W : World} {O : Nat} {o : ROp} (h : BoxA W O roT (ropA o)) : W.cell? ⟨O, 0, none⟩ = some (.int .i64 o.op) ∧ W.cell? ⟨O, 1, none⟩ = some (.int .i64 o.who) ∧ W.cell? ⟨O, 2, none⟩ = some (.int .i64 o.key) ∧ W.cell? ⟨O, 3, none⟩ = some (.int .i64 o.new) ∧ W.cell? ⟨O, 4, none⟩ = some (.int .i64 o.ty) ∧ W.cell? ⟨O, 5, none⟩ = some (.bool o.s) := ⟨h.cell 0, h.cell 1, h.cell 2, h.cell 3, h.cell 4, h.cell 5⟩
theorem opRange {W : World} {O : Nat} {q : Option Addr} {n c : Nat} {x : CmdOf} (h : BoxA W O cmT (cmA q n c x)) : W.rangeAt O 5 (ropC x.o) := fun j v hv => by
  have e : W.cell? ⟨O, 5 + j, none⟩ = (cmA q n c x)[5 + j]? := h.cell (5 + j)
  rw [e]
  rcases j with _ | _ | _ | _ | _ | _ | j
  all_goals first | exact hv | (simp [ropC] at hv)
def eqOp (a b : ROp) : Bool := a.op == b.op && a.who == b.who && a.key == b.key && a.new == b.new && a.ty == b.ty && a.s == b.s
theorem eqOp_iff {a b : ROp} : eqOp a b = true ↔ a = b := by
  unfold eqOp
  simp only [Bool.and_eq_true, beq_iff_eq]
  constructor
  · rintro ⟨⟨⟨⟨⟨h1, h2⟩, h3⟩, h4⟩, h5⟩, h6⟩; exact ROp.ext' h1 h2 h3 h4 h5 h6
  · rintro rfl; exact ⟨⟨⟨⟨⟨rfl, rfl⟩, rfl⟩, rfl⟩, rfl⟩, rfl⟩
theorem eqOp_zero (o : ROp) : eqOp o zeroOp = noOp o := rfl
set_option maxRecDepth 100000 in
theorem run_rop_eql (a b : ROp) (w : World) : (binOp .eql roT (.agg (ropA a)) (.agg (ropA b))).run Try.prog w = .ok (.bool (eqOp a b)) w := by
  obtain ⟨a1, a2, a3, a4, a5, a6⟩ := a
  obtain ⟨b1, b2, b3, b4, b5, b6⟩ := b
  by_cases h1 : a1 = b1
  · subst h1
    by_cases h2 : a2 = b2
    · subst h2
      by_cases h3 : a3 = b3
      · subst h3
        by_cases h4 : a4 = b4
        · subst h4
          by_cases h5 : a5 = b5
          · subst h5
            by_cases h6 : a6 = b6
            · subst h6; simp [go_sem, ropA, eqOp]
            · simp [go_sem, ropA, eqOp, h6]
          · simp [go_sem, ropA, eqOp, h5]
        · simp [go_sem, ropA, eqOp, h4]
      · simp [go_sem, ropA, eqOp, h3]
    · simp [go_sem, ropA, eqOp, h2]
  · simp [go_sem, ropA, eqOp, h1]
theorem within_any (z a b : Int) (w : World) : Calls Try.prog 38 #[.int .i64 z, .int .i64 a, .int .i64 b] w fun e w' => e = .returned (.bool (inB z a b)) ∧ w = w' := by
  unfold inB
  go_enter Try.func38, Try.ntmps38
  go_wp2
  all_goals (go_ret; exact ⟨by first | (simp_all; done) | (simp_all; intros; omega), rfl⟩)
section
variable {ops : Array Oper} {rest : List Oper} {o : Oper} {a : Act} {w : World} {Q : Exit → Act → World → Prop}
theorem wpList_rop_eql (hw : Region.wanted o (yielded ops a.tmps) = true) (x y : Operand) (ho : o.op = .binOp .eql roT x y roT) (p q : ROp) (hx : a.eval x = .agg (ropA p)) (hy : a.eval y = .agg (ropA q)) (h : wpList Try.prog ops Q rest (a.put o.dst (.bool (eqOp p q))) w) : wpList Try.prog ops Q (o :: rest) a w :=
  wanted_step hw fun K hK => by
    have e := run_rop_eql p q w
    have g : (eqGuard .eql roT x y (.agg (ropA p)) (.agg (ropA q))).run Try.prog w = .ok () w := by simp [go_sem, ropA]
    unfold Oper.wp execOp
    simp only [ho, hx, hy]
    simp [g, e]
    exact hK _ _ h
/-- The operation within a command in a box. -/
theorem wpList_cmop_load (hw : Region.wanted o (yielded ops a.tmps) = true) (x : Operand) (ho : o.op = .load roT x) (B : Nat) (hx : a.eval x = .pointer (some ⟨B, 5, none⟩)) (p : ROp) (hc : w.rangeAt B 5 (ropC p)) (h : wpList Try.prog ops Q rest (a.put o.dst (.agg (ropA p))) w) : wpList Try.prog ops Q (o :: rest) a w :=
  wanted_step hw fun K hK => wp_load_mid _ x ho B 5 hx (ropC p) _ hc Try.underlying24 rfl rowOp.size (hK _ _ h)
end
end Go.Proofs.Ytkibeddfkenlkaa

/- Laws for regions walked by one order, on strings of bytes, lengths and parts of pieces. Conditions: what the class keeps. -/
import Derived.Test.YtfjbehobpkmjbaaDoorMacT
namespace Go.Proofs.YtfjbehobpkmjbaaDoor
open Go.ChangeShapes Go.WideShapes Go.ChangeAt Go.RowKit
set_option linter.unusedVariables false

theorem string_run (p : Option Addr) (n cap : Nat) (g : Nat → Nat) (w : World) (hp : BytesAt w p n g) : (convert 22 9 (.slice p n cap)).run Tryd.prog w = .ok (.string (strOfNums (mk n g))) w := by
  by_cases h0 : n = 0
  · subst h0
    rw [run_convert_bytes_string w _ _ 5 p 0 cap bytesUnder byteUnder1 stringUnder1]
    cases p with
    | none => rfl
    | some ad =>
      rw [run_bytesToString w ad 0 cap [] (by simpa using run_loadCells_list (P := Tryd.prog) w ad [] (fun j v hj => by simp at hj))]
      rfl
  · rcases hp with hp | ⟨B, off, rfl, hB, hc⟩
    · exact absurd hp h0
    · exact run_convert_bytes_arg w _ 5 bytesUnder byteUnder1 B off n cap (mk n g) (mk_len n g) (fun i hi => by rw [mk_get hi]; exact hc i hi) _ stringUnder1
section
variable {o : Oper} {a : Act} {C : World → Prop} {K : Act → Prop}
theorem gives_len (x : Operand) (ho : o.op = .call { callee := .builtin .len, args := #[x], argTypes := #[22] }) (p : Option Addr) (n cap : Nat) (hx : a.eval x = .slice p n cap) (hk : K (a.put o.dst (.int .i64 n))) : ∃ v, Gives Tryd.prog C o a v ∧ K (a.put o.dst v) :=
  ⟨_, fun w _ => by
    have hr : (Builtin.len_ #[22] o.type #[.slice p n cap]).run Tryd.prog w = .ok (.int .i64 n) w := by simp [go_sem]
    unfold execOp
    simp only [ho]
    simp [hx, resolve, invoke, builtin, hr, Result.andThen], hk⟩
theorem gives_string (x : Operand) (ho : o.op = .convert 22 9 x) (p : Option Addr) (n cap : Nat) (g : Nat → Nat) (hx : a.eval x = .slice p n cap) (hp : ∀ w, C w → BytesAt w p n g) (hk : K (a.put o.dst (.string (strOfNums (mk n g))))) : ∃ v, Gives Tryd.prog C o a v ∧ K (a.put o.dst v) :=
  ⟨_, fun w hw => by
    have hr := string_run p n cap g w (hp w hw)
    unfold execOp
    simp only [ho]
    simp [hx, hr], hk⟩
theorem gives_string_eql (x y : Operand) (ho : o.op = .binOp .eql 9 x y 9) (s t : Value) (b : _) (hs : s = .string b) (ht : t = .string b) (hx : a.eval x = s) (hy : a.eval y = t) (hk : K (a.put o.dst (.bool true))) : ∃ v, Gives Tryd.prog C o a v ∧ K (a.put o.dst v) :=
  ⟨.bool true, fun w _ => by
    subst hs ht
    unfold execOp
    simp only [ho, hx, hy]
    simp [go_sem], hk⟩
/-- The beginning of a piece. -/
theorem gives_cut (x y : Operand) (ho : o.op = .slice 25 x none (some y) none) (B n : Nat) (z : Int) (hx : a.eval x = .pointer (some ⟨B, 0, none⟩)) (hy : a.eval y = .int .i64 z) (hz : z = n) (hn : n ≤ 64) (hk : K (a.put o.dst (.slice (some ⟨B, 0, none⟩) n 64))) : ∃ v, Gives Tryd.prog C o a v ∧ K (a.put o.dst v) :=
  ⟨.slice (some ⟨B, 0, none⟩) n 64, fun w _ => by
    subst hz
    have hs := byteElem.run_size (P := Tryd.prog) w
    have e1 : (n : Int) ≤ 64 := by omega
    have hr : (Instr.sliceAt 25 (.pointer (some ⟨B, 0, none⟩)) none (some (.int .i64 n)) none).run Tryd.prog w = .ok (.slice (some ⟨B, 0, none⟩) n 64) w := by simp [go_sem, hs, e1]
    unfold execOp
    simp only [ho, hx]
    simp [hy, hr], hk⟩
end
end Go.Proofs.YtfjbehobpkmjbaaDoor

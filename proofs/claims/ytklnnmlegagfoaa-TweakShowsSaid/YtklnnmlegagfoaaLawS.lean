/- What the statements of layer 6 share: guarded operations on keys. No condition. -/
import Derived.Test.YtklnnmlegagfoaaAliveC
import Derived.Test.YtklnnmlegagfoaaRefTw
import Derived.Test.YtklnnmlegagfoaaTwProg
import Derived.Test.YtklnnmlegagfoaaTwBase
import Derived.Test.YtklnnmlegagfoaaTwCipher
namespace Go.Proofs.Ytklnnmlegagfoaa
open Go.ChangeShapes Go.WideShapes Go.ChangeAt Go.RowKit
set_option linter.unusedVariables false

section
variable {ops : Array Oper} {rest : List Oper} {o : Oper} {a : Act} {w : World} {Q : Exit → Act → World → Prop}
theorem wanted_step (hw : Region.wanted o (yielded ops a.tmps) = true) (h : ∀ K : Act → World → Prop, (∀ a w, wpList Try.prog ops Q rest a w → K a w) → o.wp Try.prog a w K Q) : wpList Try.prog ops Q (o :: rest) a w :=
  wpList_step fun K hK => by rw [if_pos hw]; exact h K hK
theorem wpList_load_want (hw : Region.wanted o (yielded ops a.tmps) = true) (x : Operand) (ho : o.op = .load 25 x) (B : Nat) (f : Nat → Nat) (hx : a.eval x = .pointer (some ⟨B, 0, none⟩)) (hB : IntBlk w B .u8 25 (mk 16 f))
    (h : wpList Try.prog ops Q rest (a.put o.dst (.agg (cellsOf .u8 (mk 16 f)))) w) : wpList Try.prog ops Q (o :: rest) a w :=
  wanted_step hw fun _ hK => wp_load_row 25 x ho B hx 25 (cellsOf .u8 (mk 16 f)) (0, 0) _ hB keyUnder rfl (keySize f) (hK _ _ h)
theorem wpList_eql_is (hw : Region.wanted o (yielded ops a.tmps) = true) (x y : Operand) (ho : o.op = .binOp .eql 25 x y 25) (f g : Nat → Nat) (r : Bool) (hr : (mk 16 f == mk 16 g) = r) (hx : a.eval x = .agg (cellsOf .u8 (mk 16 f))) (hy : a.eval y = .agg (cellsOf .u8 (mk 16 g)))
    (h : wpList Try.prog ops Q rest (a.put o.dst (.bool r)) w) : wpList Try.prog ops Q (o :: rest) a w :=
  wanted_step hw fun _ hK => by
    have e := key_eq f g w
    rw [hr] at e
    unfold Oper.wp execOp
    simp only [ho, hx, hy]
    simp [go_sem, e]
    exact hK _ _ h
theorem wpList_neq_is (hw : Region.wanted o (yielded ops a.tmps) = true) (x y : Operand) (ho : o.op = .binOp .neq 25 x y 25) (f g : Nat → Nat) (hr : (mk 16 f == mk 16 g) = true) (hx : a.eval x = .agg (cellsOf .u8 (mk 16 f))) (hy : a.eval y = .agg (cellsOf .u8 (mk 16 g)))
    (h : wpList Try.prog ops Q rest (a.put o.dst (.bool false)) w) : wpList Try.prog ops Q (o :: rest) a w :=
  wanted_step hw fun _ hK => by
    have e := key_eq f g w
    rw [hr] at e
    unfold Oper.wp execOp
    simp only [ho, hx, hy]
    simp [go_sem, e]
    exact hK _ _ h
theorem wpList_zero_want (hw : Region.wanted o (yielded ops a.tmps) = true) (ho : o.op = .build 25 #[]) (h : wpList Try.prog ops Q rest (a.put o.dst (.agg (cellsOf .u8 (mk 16 zeroK)))) w) : wpList Try.prog ops Q (o :: rest) a w :=
  wanted_step hw fun _ hK => by
    have e := run_build w 25 #[] _ zero_built
    unfold Oper.wp execOp
    simp only [ho]
    simp [e]
    exact hK _ _ h
end
theorem same_key (f : Nat → Nat) : (mk 16 f == mk 16 f) = true := by simp
/-- The tweak of number 0 with the key of noughts is none of noughts. -/
theorem one_not_zero : (mk 16 (twF 4 zeroK 0) == mk 16 zeroK) = false := by
  have e : (mk 16 (twF 4 zeroK 0)).getD 0 0 ≠ (mk 16 zeroK).getD 0 0 := by
    rw [mk_get (by omega), mk_get (by omega), tw_zx 0 (by omega)]
    decide +kernel
  simp only [beq_eq_false_iff_ne, ne_eq]
  intro h; rw [h] at e; exact e rfl
end Go.Proofs.Ytklnnmlegagfoaa

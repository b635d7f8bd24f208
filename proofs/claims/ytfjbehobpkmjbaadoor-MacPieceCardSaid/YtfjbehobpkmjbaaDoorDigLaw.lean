/- What the statements on whole digests share: sums by value, no parts, one part, an empty text's digest. Conditions as each says. -/
import Derived.Test.YtfjbehobpkmjbaaDoorOfC
import Derived.Test.YtfjbehobpkmjbaaDoorRefOf
import Derived.Test.YtfjbehobpkmjbaaDoorEmpty
import Derived.Test.YtfjbehobpkmjbaaDoorQuietA
import Derived.Test.YtfjbehobpkmjbaaDoorCopyC
namespace Go.Proofs.YtfjbehobpkmjbaaDoor
open Go.ChangeShapes Go.WideShapes Go.ChangeAt Go.RowKit

theorem sum_eq (f g : Nat → Nat) (w : World) : (Op.equalIn 10000 30 (.agg (cellsOf .u8 (mk 32 f))) (.agg (cellsOf .u8 (mk 32 g)))).run Tryd.prog w = .ok (mk 32 f == mk 32 g) w :=
  run_equalIn_ints w 9998 (mk 32 f) (mk 32 g) (by rw [mk_len]; exact sumUnder) byteElem (by rw [mk_len, mk_len])
section
variable {o : Oper} {a : Act} {C : World → Prop} {K : Act → Prop}
theorem quiet_sum_eql (x y : Operand) (ho : o.op = .binOp .eql 30 x y 30) (f g : Nat → Nat) (hx : a.eval x = .agg (cellsOf .u8 (mk 32 f))) (hy : a.eval y = .agg (cellsOf .u8 (mk 32 g))) (h : (mk 32 f == mk 32 g) = true) (hk : K (a.put o.dst (.bool true))) : o.quiet Tryd.prog a C K := by
  refine quiet_value (.bool true) (fun w _ => ?_) hk
  have e := sum_eq f g w
  unfold execOp
  simp only [ho, hx, hy]
  simp [go_sem, e, h]
theorem quiet_sum_index (x y : Operand) (ho : o.op = .index 30 x y) (f : Nat → Nat) (k : Nat) (hx : a.eval x = .agg (cellsOf .u8 (mk 32 f))) (z : Int) (hy : a.eval y = .int .i64 z) (hz : z = k) (hk32 : k < 32) (v : Int) (hv : (f k : Int) = v) (hk : K (a.put o.dst (.int .u8 v))) : o.quiet Tryd.prog a C K := by
  subst hz; subst hv
  refine quiet_value _ (fun w _ => ?_) hk
  have e := run_index_at (P := Tryd.prog) 30 32 f sumUnder byteElem hk32 w
  unfold execOp
  simp only [ho, hx, hy]
  simp [e]
end
/-- No parts at all. -/
theorem Of_none (w : World) (hT : TabAt w) : Calls Tryd.prog 27 #[.slice none 0 0] w fun e w' => e = .returned (.agg (cellsOf .u8 (mk 32 (digF 0 zeroK)))) ∧ Below w.heap.size w w' :=
  Of_any 0 0 none (fun _ => (none, 0, 0)) zeroK (by omega) (by show (0 : Nat) ≤ _; omega) (fun i hi => absurd hi (Nat.not_lt_zero _)) (fun i hi => absurd hi (Nat.not_lt_zero _)) w hT ⟨.inl rfl, fun i hi => absurd hi (Nat.not_lt_zero _)⟩
theorem dig_none : ((digF 0 zeroK 0 : Nat) : Int) = 227 ∧ ((digF 0 zeroK 31 : Nat) : Int) = 85 := by
  have h := outE zeroK
  unfold digF
  rw [h.1, h.2]; exact ⟨rfl, rfl⟩
/-- One part. -/
theorem Of_one (B c : Nat) (p : Option Addr) (n cap : Nat) (g : Nat → Nat) (hn : n ≤ 100000) (hcap : n ≤ cap) (hg : ∀ i, i < n → g i < 256) (w : World) (hT : TabAt w) (hB : w.cell? ⟨B, 0, none⟩ = some (.slice p n cap)) (hp : BytesAt w p n g) :
    Calls Tryd.prog 27 #[.slice (some ⟨B, 0, none⟩) 1 c] w fun e w' => e = .returned (.agg (cellsOf .u8 (mk 32 (digF n g)))) ∧ Below w.heap.size w w' := by
  have h1 : lenTo (fun _ => (p, n, cap)) 1 = n := by show 0 + n = n; omega
  have := Of_any 1 c (some ⟨B, 0, none⟩) (fun _ => (p, n, cap)) g (by omega) (by rw [h1]; omega) (fun _ _ => hcap) (by rw [h1]; exact hg) w hT ⟨.inr ⟨B, 0, rfl, block_lt_of_cell hB, fun i hi => by
    obtain rfl : i = 0 := by omega
    exact hB⟩, fun i hi => by
    obtain rfl : i = 0 := by omega
    rcases hp with h | ⟨b, o, h2, h3, h4⟩
    · exact .inl h
    · exact .inr ⟨b, o, h2, h3, fun j hj => by
        have := h4 j hj
        show w.cell? _ = some (.int .u8 (g (0 + j) : Nat))
        rw [Nat.zero_add]; exact this⟩⟩
  rw [h1] at this; exact this
end Go.Proofs.YtfjbehobpkmjbaaDoor

/- Slices of one key and of two, just made: where they lie, and in a walk. No condition. -/
import Derived.Test.YtilfjmpoiiepkaaEncC
import Derived.Test.YtilfjmpoiiepkaaGives
namespace Go.Proofs.Ytilfjmpoiiepkaa
open Go.ChangeShapes Go.WideShapes Go.ChangeAt Go.RowKit

def oneR (f : Nat → Nat) : Nat → Nat → Nat := fun _ => f
def twoR (f g : Nat → Nat) : Nat → Nat → Nat := fun i => if i = 0 then f else g
theorem keysAt_one {w : World} {B : Nat} {t : TypeId} {f : Nat → Nat} (h : IntBlk w B .u8 t (mk 16 f)) : KeysAt w (some ⟨B, 0, none⟩) 1 (oneR f) := .inr ⟨B, 0, rfl, h.lt, fun i hi => by
  obtain rfl : i = 0 := by omega
  have := h.cells (o := 0) (n := 16) (by omega)
  simpa [oneR] using this⟩
theorem keysAt_two {w : World} {B : Nat} {t : TypeId} {f g : Nat → Nat} (h : IntBlk w B .u8 t (mk 32 (twoK f g))) : KeysAt w (some ⟨B, 0, none⟩) 2 (twoR f g) := .inr ⟨B, 0, rfl, h.lt, fun i hi j hj => by
  rcases (show i = 0 ∨ i = 1 by omega) with rfl | rfl
  · have := h.cells (o := 0) (n := 16) (by omega) j hj
    simp only [Nat.zero_add, Nat.zero_mul] at this ⊢
    rw [this]; simp [twoR, twoK, hj]
  · have := h.cells (o := 16) (n := 16) (by omega) j hj
    simp only [Nat.zero_add, Nat.one_mul] at this ⊢
    have e : twoK f g (16 + j) = g j := by unfold twoK; rw [if_neg (by omega), Nat.add_sub_cancel_left]
    rw [this, e]; rfl⟩
theorem oneR_key {f : Nat → Nat} (h : IsKey f) : ∀ i, i < 1 → IsKey (oneR f i) := fun _ _ => h
theorem twoR_key {f g : Nat → Nat} (hf : IsKey f) (hg : IsKey g) : ∀ i, i < 2 → IsKey (twoR f g i) := fun i _ => by unfold twoR; split; exact hf; exact hg
theorem wpList_keys1 {ops : Array Oper} {rest : List Oper} {o : Oper} {a : Act} {w : World} {Q : Exit → Act → World → Prop} (hgd : o.guard = none) (x : Operand) (ho : o.op = .buildSlice 31 1 #[(0, x)]) (f : Nat → Nat) (hx : a.eval x = .agg (cellsOf .u8 (mk 16 f)))
    (h : wpList Try.prog ops Q rest (a.put o.dst (.slice (some ⟨w.heap.size, 0, none⟩) 1 1)) (w.alloc (.cells (cellsOf .u8 (mk 16 f)) 23))) : wpList Try.prog ops Q (o :: rest) a w :=
  wpList_plain hgd fun _ hK => by
    have e := run_keys1 f w
    unfold Oper.wp execOp
    simp only [ho]
    simp [hx, e]
    exact hK _ _ h
theorem wpList_keys2 {ops : Array Oper} {rest : List Oper} {o : Oper} {a : Act} {w : World} {Q : Exit → Act → World → Prop} (hgd : o.guard = none) (x y : Operand) (ho : o.op = .buildSlice 31 2 #[(0, x), (1, y)]) (f g : Nat → Nat) (hx : a.eval x = .agg (cellsOf .u8 (mk 16 f))) (hy : a.eval y = .agg (cellsOf .u8 (mk 16 g)))
    (h : wpList Try.prog ops Q rest (a.put o.dst (.slice (some ⟨w.heap.size, 0, none⟩) 2 2)) (w.alloc (.cells (cellsOf .u8 (mk 32 (twoK f g))) 23))) : wpList Try.prog ops Q (o :: rest) a w :=
  wpList_plain hgd fun _ hK => by
    have e := run_keys2 f g w
    unfold Oper.wp execOp
    simp only [ho]
    simp [hx, hy, e]
    exact hK _ _ h
end Go.Proofs.Ytilfjmpoiiepkaa

/- Structs of layer 11's statements in boxes: their fields, where they lie. Conditions: as each says. -/
import Derived.Test.YtbdldnhpgpjnoaaDoorTrOpen
namespace Go.Proofs.YtbdldnhpgpjnoaaDoor
open Go.ChangeShapes Go.WideShapes Go.ChangeAt Go.RowKit
set_option linter.unusedVariables false
theorem wpList_agg_box {ops : Array Oper} {rest : List Oper} {o : Oper} {a : Act} {w : World} {Q : Exit → Act → World → Prop} (hgd : o.guard = none) (ty : TypeId) (x : Operand) (ho : o.op = .box ty x) (cs : List Value) (hx : a.eval x = .agg cs.toArray) (S : Nat) (hS : w.heap.size = S)
    (h : ∀ w', (∀ i v, cs[i]? = some v → w'.cell? ⟨S, i, none⟩ = some v) → Below S w w' → w'.heap.size = S + 1 → wpList Tryd.prog ops Q rest (a.put o.dst (.pointer (some ⟨S, 0, none⟩))) w') : wpList Tryd.prog ops Q (o :: rest) a w :=
  wpList_plain hgd fun K hK => by
    subst hS
    have h2 := h (w.alloc (.cells cs.toArray ty)) (fun i v hv => by rw [cell_of_row _ _ i _ _ _ (heap_alloc_new w (.cells cs.toArray ty)), List.getElem?_toArray]; exact hv) ((Below.refl _ _).alloc (Nat.le_refl _) _) (by simp)
    unfold Oper.wp execOp
    simp only [ho, hx]
    simp [go_sem]
    exact hK _ _ h2
def pairC (q : Option Addr) (n c : Nat) (z : Int) (l r : List Int) : List Value := .slice q n c :: .int .i64 z :: (sumC l ++ sumC r)
def updC (q : Option Addr) (n c : Nat) (p : Option Addr) (m d : Nat) (z : Int) (l : List Int) (b : Bool) : List Value := .slice q n c :: .slice p m d :: .int .i64 z :: (sumC l ++ [.bool b])
theorem pairV_is (q : Option Addr) (n c : Nat) (z : Int) (l r : List Int) : pairV q n c z l r = .agg (pairC q n c z l r).toArray := rfl
theorem updV_is (q : Option Addr) (n c : Nat) (p : Option Addr) (m d : Nat) (z : Int) (l : List Int) (b : Bool) : updV q n c p m d z l b = .agg (updC q n c p m d z l b).toArray := rfl
structure PairAt (W : World) (S : Nat) (q : Option Addr) (n c : Nat) (z : Int) (l r : List Int) : Prop where
  k : W.cell? ⟨S, 0, none⟩ = some (.slice q n c)
  i : W.cell? ⟨S, 1, none⟩ = some (.int .i64 z)
  l : W.rangeAt S 2 (sumC l)
  r : W.rangeAt S 34 (sumC r)
theorem PairAt.of {W : World} {S : Nat} {q : Option Addr} {n c : Nat} {z : Int} {l r : List Int} (h : ∀ i v, (pairC q n c z l r)[i]? = some v → W.cell? ⟨S, i, none⟩ = some v) : PairAt W S q n c z l r :=
  ⟨h 0 _ rfl, h 1 _ rfl, fun j v hv => by
    have hj : j < 32 := by rw [← sumC_len l]; exact (List.getElem?_eq_some_iff.1 hv).1
    refine h (2 + j) v ?_
    unfold pairC
    rw [show 2 + j = j + 1 + 1 by omega, List.getElem?_cons_succ, List.getElem?_cons_succ, List.getElem?_append_left (by rw [sumC_len]; exact hj)]; exact hv, fun j v hv => by
    have hj : j < 32 := by rw [← sumC_len r]; exact (List.getElem?_eq_some_iff.1 hv).1
    refine h (34 + j) v ?_
    unfold pairC
    rw [show 34 + j = j + 32 + 1 + 1 by omega, List.getElem?_cons_succ, List.getElem?_cons_succ, List.getElem?_append_right (by rw [sumC_len]; omega), sumC_len, Nat.add_sub_cancel]; exact hv⟩
structure UpdAt (W : World) (S : Nat) (q : Option Addr) (n c : Nat) (p : Option Addr) (m d : Nat) (z : Int) (l : List Int) (b : Bool) : Prop where
  k : W.cell? ⟨S, 0, none⟩ = some (.slice q n c)
  t : W.cell? ⟨S, 1, none⟩ = some (.slice p m d)
  i : W.cell? ⟨S, 2, none⟩ = some (.int .i64 z)
  l : W.rangeAt S 3 (sumC l)
  b : W.cell? ⟨S, 35, none⟩ = some (.bool b)
theorem UpdAt.of {W : World} {S : Nat} {q : Option Addr} {n c : Nat} {p : Option Addr} {m d : Nat} {z : Int} {l : List Int} {b : Bool} (h : ∀ i v, (updC q n c p m d z l b)[i]? = some v → W.cell? ⟨S, i, none⟩ = some v) : UpdAt W S q n c p m d z l b :=
  ⟨h 0 _ rfl, h 1 _ rfl, h 2 _ rfl, fun j v hv => by
    have hj : j < 32 := by rw [← sumC_len l]; exact (List.getElem?_eq_some_iff.1 hv).1
    refine h (3 + j) v ?_
    unfold updC
    rw [show 3 + j = j + 1 + 1 + 1 by omega, List.getElem?_cons_succ, List.getElem?_cons_succ, List.getElem?_cons_succ, List.getElem?_append_left (by rw [sumC_len]; exact hj)]; exact hv, by
    refine h 35 _ ?_
    unfold updC
    rw [show 35 = 32 + 1 + 1 + 1 by omega, List.getElem?_cons_succ, List.getElem?_cons_succ, List.getElem?_cons_succ, List.getElem?_append_right (by rw [sumC_len]; omega), sumC_len]; rfl⟩
end Go.Proofs.YtbdldnhpgpjnoaaDoor

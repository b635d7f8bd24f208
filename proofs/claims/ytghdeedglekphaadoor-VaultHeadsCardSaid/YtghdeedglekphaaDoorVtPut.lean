/- Single cells written into blocks; bytes that fill a row one by one; both roots' places in a head. Conditions: as each says. -/
import Derived.Test.YtghdeedglekphaaDoorVtHeadC
namespace Go.Proofs.YtghdeedglekphaaDoor
open Go.ChangeShapes Go.WideShapes Go.ChangeAt Go.RowKit
set_option linter.unusedVariables false
theorem CellB.put {w : World} {B : Nat} {cs : List Value} (h : CellB w B cs) {k : Nat} (hk : k < cs.length) (v : Value) : CellB (w.setCell ⟨B, k, none⟩ v) B (cs.set k v) := by
  have := h.over (off := k) (vs := [v]) (ds := cs.set k v) (by simp only [List.length_cons, List.length_nil]; omega) fun j u hu => by
    rw [List.getElem?_set] at hu
    by_cases e : k = j
    · subst e
      rw [if_pos rfl, if_pos hk] at hu
      cases hu
      refine ⟨fun _ => by rw [Nat.sub_self]; rfl, fun hj => ?_⟩
      simp only [List.length_cons, List.length_nil] at hj; omega
    · rw [if_neg e] at hu
      exact ⟨fun hj => by simp only [List.length_cons, List.length_nil] at hj; omega, fun _ => hu⟩
  exact this
theorem CellB.free {w : World} {B : Nat} {cs : List Value} (h : CellB w B cs) {k : Nat} (hk : k < cs.length) : w.frozen? ⟨B, k, none⟩ = false := by
  have := (h.there (off := k) (n := 1) (by omega) 0 (by omega)).2
  exact this
theorem size_setC (W : World) (a : Addr) (x : Value) : (W.setCell a x).heap.size = W.heap.size := by simp [World.setCell]
section
variable {ops : Array Oper} {rest : List Oper} {o : Oper} {a : Act} {w : World} {Q : Exit → Act → World → Prop}
theorem wpList_byte_put (hgd : o.guard = none) (x y : Operand) (ho : o.op = .store 5 x y) (hd : o.dst = none) (B k : Nat) (hx : a.eval x = .pointer (some ⟨B, k, none⟩)) (b : Int) (hy : a.eval y = .int .u8 b) (cs : List Value) (hl : CellB w B cs) (hk : k < cs.length)
    (h : ∀ w', CellB w' B (cs.set k (.int .u8 b)) → But B w w' → w'.heap.size = w.heap.size → wpList Tryd.prog ops Q rest a w') : wpList Tryd.prog ops Q (o :: rest) a w :=
  wpList_plain hgd fun K hK => by
    have c1 := hl.cell (List.getElem?_eq_getElem hk); have f1 := hl.free hk
    have h2 := h (w.setCell ⟨B, k, none⟩ (.int .u8 b)) (hl.put hk _) (But.setCell B k w _) (size_setC _ _ _)
    unfold Oper.wp execOp
    simp only [ho, hx, hy]
    simp [go_sem, c1, f1]
    refine hK _ _ ?_
    simpa [hd] using h2
theorem wpList_int_put (hgd : o.guard = none) (x y : Operand) (ho : o.op = .store 3 x y) (hd : o.dst = none) (B k : Nat) (hx : a.eval x = .pointer (some ⟨B, k, none⟩)) (b : Int) (hy : a.eval y = .int .i64 b) (cs : List Value) (hl : CellB w B cs) (hk : k < cs.length)
    (h : ∀ w', CellB w' B (cs.set k (.int .i64 b)) → But B w w' → w'.heap.size = w.heap.size → wpList Tryd.prog ops Q rest a w') : wpList Tryd.prog ops Q (o :: rest) a w :=
  wpList_plain hgd fun K hK => by
    have c1 := hl.cell (List.getElem?_eq_getElem hk); have f1 := hl.free hk
    have h2 := h (w.setCell ⟨B, k, none⟩ (.int .i64 b)) (hl.put hk _) (But.setCell B k w _) (size_setC _ _ _)
    unfold Oper.wp execOp
    simp only [ho, hx, hy]
    simp [go_sem, c1, f1]
    refine hK _ _ ?_
    simpa [hd] using h2
theorem wpList_roots_addr (hgd : o.guard = none) (x y : Operand) (ho : o.op = .indexAddr 25 x y) (B off k : Nat) (hx : a.eval x = .pointer (some ⟨B, off, none⟩)) (hy : a.eval y = .int .i64 k) (hk : k < 2)
    (h : wpList Tryd.prog ops Q rest (a.put o.dst (.pointer (some ⟨B, off + 32 * k, none⟩))) w) : wpList Tryd.prog ops Q (o :: rest) a w :=
  wpList_plain hgd fun K hK => by
    have h0 : (k : Int) < 2 := by omega
    have hi := sumSz
    cases hq : Tryd.prog.info? 24 with
    | none => simp [hq] at hi
    | some i =>
      have hs : i.size = 32 := by simpa [hq] using hi
      unfold Oper.wp execOp
      simp only [ho, hx, hy]
      simp [go_sem, h0, sizeOf, typeInfo, hq, hs, addr_add]
      exact hK _ _ (by rw [Nat.mul_comm]; exact h)
end
/-- A row of bytes whose first k are laid. -/
def fTo (k : Nat) (g : Nat → Nat) : Nat → Nat := fun j => if j < k then g j else 0
theorem bytC_put {n k : Nat} (g : Nat → Nat) (hk : k < n) : (bytC n (fTo k g)).set k (.int .u8 (g k : Nat)) = bytC n (fTo (k + 1) g) := by
  apply List.ext_getElem?
  intro i
  rw [List.getElem?_set]
  by_cases hi : i < n
  · by_cases e : k = i
    · subst e
      rw [if_pos rfl, if_pos (by rw [bytC_len]; exact hk), bytC_get _ hk]
      unfold fTo; rw [if_pos (by omega)]
    · rw [if_neg e, bytC_get _ hi, bytC_get _ hi]
      have : fTo k g i = fTo (k + 1) g i := by
        unfold fTo
        by_cases h : i < k
        · rw [if_pos h, if_pos (by omega)]
        · rw [if_neg h, if_neg (by omega)]
      rw [this]
  · rw [if_neg (by omega), List.getElem?_eq_none (by rw [bytC_len]; omega), List.getElem?_eq_none (by rw [bytC_len]; omega)]
theorem bytC_zero (n : Nat) (g : Nat → Nat) : bytC n (fTo 0 g) = bytC n zeroK := bytC_ext fun j hj => by unfold fTo zeroK; rw [if_neg (by omega)]
theorem bytC_all (n : Nat) (g : Nat → Nat) : bytC n (fTo n g) = bytC n g := bytC_ext fun j hj => by unfold fTo; rw [if_pos hj]
theorem secC_zero : secC noSec = bytC 128 zeroK := bytC_ext fun j hj => natF_mk hj
attribute [local irreducible] nought tauK sumVal sumC secVal secC headV headC bytC rootsV rootK restK txtK hdT hdL numL noSec noRow
/-- A root as it lies in a head. -/
theorem head_root_at {w : World} {B : Nat} {z : Int} {P : List Int} (hP : IsBytes P) (h : CellB w B (headC z P)) {k : Nat} (hk : k < 2) : RowsAt 1 byteC w (some ⟨B, 1 + 32 * k, none⟩) (rootK P k) := by
  have hr : w.rangeAt B (1 + 32 * k) (bytC 32 fun j => natF P (32 * k + j)) := h.part (off := 1 + 32 * k) fun j v hv => headC_part z P (32 * k) 32 (by omega) j v hv
  have hb := bytes_of_range hr h.lt
  have hs := rootK_sum hP k
  refine bytes_rows ?_ hs.2
  rw [hs.1]
  exact bytes_congr (fun j hj => (by unfold rootK; exact (natF_mk (f := fun j => natF P (32 * k + j)) hj).symm)) hb
end Go.Proofs.YtghdeedglekphaaDoor

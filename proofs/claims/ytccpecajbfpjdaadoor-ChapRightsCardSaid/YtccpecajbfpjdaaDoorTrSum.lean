/- Sectors by value and in slices: loaded, built, held against one another. Conditions: as each says. -/
import Derived.Test.YtccpecajbfpjdaaDoorTrGives
import Derived.Test.YtccpecajbfpjdaaDoorTrNum
namespace Go.Proofs.YtccpecajbfpjdaaDoor
open Go.ChangeShapes Go.WideShapes Go.ChangeAt Go.RowKit
set_option linter.unusedVariables false

def sumC (s : List Int) : List Value := (cellsOf .u8 (mk 32 (natF s))).toList
theorem sumC_len (s : List Int) : (sumC s).length = 32 := by unfold sumC; rw [Array.length_toList, cellsOf_size, mk_len]
theorem sumC_one (s : List Int) : ∀ u ∈ sumC s, u.oneCell' = true := fun u hu => (Array.all_eq_true_iff_forall_mem.1 (cellsOf_one .u8 (mk 32 (natF s)))) u (by simpa [sumC] using hu)
theorem sumC_get (s : List Int) {j : Nat} (h : j < 32) : (sumC s)[j]? = some (.int .u8 (natF s j : Nat)) := by
  unfold sumC
  rw [Array.getElem?_toList, cellsOf_get .u8 _ (by rw [mk_len]; exact h), mk_get h]
theorem sumC_arr (s : List Int) : (sumC s).toArray = cellsOf .u8 (mk 32 (natF s)) := by unfold sumC; simp
def sumVal (s : List Int) : Value := .agg (cellsOf .u8 (mk 32 (natF s)))
theorem sumVal_arr (s : List Int) : Value.agg (sumC s).toArray = sumVal s := by unfold sumVal; rw [sumC_arr]
theorem sumSz : (Tryd.prog.info? 25).map (·.size) = some 32 := by kernel_rfl
theorem sumZro : (Tryd.prog.info? 25).bind (·.zero) = some (sumVal []) := by kernel_rfl
def sameSum (x y : List Int) : Bool := mk 32 (natF x) == mk 32 (natF y)
theorem sameSum_iff {x y : List Int} (hx : IsSum x) (hy : IsSum y) : sameSum x y = true ↔ x = y := by
  unfold sameSum
  rw [hx.mk', hy.mk', beq_iff_eq]
theorem sumC_size (s : List Int) : (Tryd.prog.info? 25).map (·.size) = some (sumC s).length := by rw [sumC_len]; exact sumSz
section
variable {ops : Array Oper} {rest : List Oper} {o : Oper} {a : Act} {w : World} {Q : Exit → Act → World → Prop} {C : World → Prop} {K : Act → Prop}
theorem wpList_sum_mid (hgd : o.guard = none) (x : Operand) (ho : o.op = .load 25 x) (B off : Nat) (hx : a.eval x = .pointer (some ⟨B, off, none⟩)) (s : List Int) (hc : w.rangeAt B off (sumC s)) (h : wpList Tryd.prog ops Q rest (a.put o.dst (sumVal s)) w) : wpList Tryd.prog ops Q (o :: rest) a w :=
  wpList_load_mid hgd _ x ho B off hx (sumC s) _ hc Tryd.underlying25 rfl (sumC_size s) (by rw [sumVal_arr]; exact h)
theorem gives_sum_mid (x : Operand) (ho : o.op = .load 25 x) (B off : Nat) (hx : a.eval x = .pointer (some ⟨B, off, none⟩)) (s : List Int) (hc : ∀ w, C w → w.rangeAt B off (sumC s)) (hk : K (a.put o.dst (sumVal s))) : ∃ v, Gives Tryd.prog C o a v ∧ K (a.put o.dst v) :=
  ⟨_, fun w hw => by
    unfold execOp
    simp only [ho, hx, Instr.loadAt, Instr.sureAddr, Sem.run_bind, Sem.run_pure, Result.andThen_ok, run_loadVar_mid w B off 25 (sumC s) _ (hc w hw) Tryd.underlying25 rfl (sumC_size s)]
    rw [sumVal_arr], hk⟩
theorem exec_sum_neq (x y : Operand) (ho : o.op = .binOp .neq 25 x y 25) (c d : List Int) (hx : a.eval x = sumVal c) (hy : a.eval y = sumVal d) (w : World) : (execOp a.eval o).run Tryd.prog w = .ok (.value (.bool (!(sameSum c d)))) w := by
  unfold execOp
  simp only [ho, hx, hy]
  unfold sumVal
  have e := run_neq_struct (P := Tryd.prog) w 25 (cellsOf .u8 (mk 32 (natF c))) (cellsOf .u8 (mk 32 (natF d)))
  rw [sum_eq] at e
  have g := run_eqGuard_agg (P := Tryd.prog) w .neq 25 x y (cellsOf .u8 (mk 32 (natF c))) (cellsOf .u8 (mk 32 (natF d))) (by kernel_rfl)
  simp only [Sem.run_bind, g, e, Result.andThen_ok, Sem.run_pure]
  rfl
theorem gives_sum_neq2 (x y : Operand) (ho : o.op = .binOp .neq 25 x y 25) (c d : List Int) (hx : a.eval x = sumVal c) (hy : a.eval y = sumVal d) (v : Bool) (hv : (!(sameSum c d)) = v) (hk : K (a.put o.dst (.bool v))) : ∃ v, Gives Tryd.prog C o a v ∧ K (a.put o.dst v) :=
  ⟨_, fun w _ => by subst hv; exact exec_sum_neq x y ho c d hx hy w, hk⟩
theorem exec_sum_eql (x y : Operand) (ho : o.op = .binOp .eql 25 x y 25) (c d : List Int) (hx : a.eval x = sumVal c) (hy : a.eval y = sumVal d) (w : World) : (execOp a.eval o).run Tryd.prog w = .ok (.value (.bool (sameSum c d))) w := by
  unfold execOp
  simp only [ho, hx, hy]
  unfold sumVal
  have e := run_eql_struct (P := Tryd.prog) w 25 (cellsOf .u8 (mk 32 (natF c))) (cellsOf .u8 (mk 32 (natF d)))
  rw [sum_eq] at e
  have g := run_eqGuard_agg (P := Tryd.prog) w .eql 25 x y (cellsOf .u8 (mk 32 (natF c))) (cellsOf .u8 (mk 32 (natF d))) (by kernel_rfl)
  simp only [Sem.run_bind, g, e, Result.andThen_ok, Sem.run_pure]
  rfl
theorem fill_sum1 (s : List Int) : Instr.fill (fun i => some (i * 32, 32)) ((Array.range (1 * 32)).map ((sumVal []).cells[· % (sumVal []).cells.size]!)) [(0, sumVal s)] = some (sumC s).toArray := by kernel_rfl
theorem fill_sum2 (s u : List Int) : Instr.fill (fun i => some (i * 32, 32)) ((Array.range (2 * 32)).map ((sumVal []).cells[· % (sumVal []).cells.size]!)) [(0, sumVal s), (1, sumVal u)] = some ([s, u].flatMap sumC).toArray := by kernel_rfl
end
/-- A new block that holds a list's cells. -/
theorem rows_new {α : Type} {sz : Nat} {C : α → List Value} (hC : ∀ c, (C c).length = sz) (w : World) (l : List α) (e : TypeId) : RowsAt sz C (w.alloc (.cells (l.flatMap C).toArray e)) (some ⟨w.heap.size, 0, none⟩) l :=
  .inr ⟨w.heap.size, 0, rfl, by simp, fun i d hd j v hv => by
    have hj : j < sz := by rw [← hC d]; exact (List.getElem?_eq_some_iff.1 hv).1
    rw [cell_of_row _ _ _ _ _ _ (heap_alloc_new w (.cells (l.flatMap C).toArray e)), Nat.zero_add, Nat.mul_comm, List.getElem?_toArray, flatMap_at hC l i j d hd hj]
    exact hv⟩
theorem own_new {α : Type} {e : TypeId} {sz : Nat} {C : α → List Value} (hC : ∀ c, (C c).length = sz) (w : World) (l : List α) (base : Nat) (hb : base ≤ w.heap.size) (hl : l.length ≤ 1000000) : OwnL e sz C (w.alloc (.cells (l.flatMap C).toArray e)) base (w.heap.size + 1) (.slice (some ⟨w.heap.size, 0, none⟩) l.length l.length) l :=
  .inr ⟨w.heap.size, l.length, _, rfl, hb, by omega, heap_alloc_new _ _, Nat.le_refl _, by unfold maxLen; omega, by rw [List.size_toArray, flatMap_len hC], by rw [List.take_of_length_le (Nat.le_of_eq (flatMap_len hC l))]⟩
theorem rows_sum1 (w : World) (s : List Int) : RowsAt 32 sumC (w.alloc (.cells (sumC s).toArray 25)) (some ⟨w.heap.size, 0, none⟩) [s] := by
  have := rows_new sumC_len w [s] 25
  simpa using this
theorem sumsAt_get {W : World} {q : Option Addr} {l : List (List Int)} (h : RowsAt 32 sumC W q l) {k : Nat} (hk : k < l.length) : ∃ B o, q = some ⟨B, o, none⟩ ∧ B < W.heap.size ∧ W.rangeAt B (o + 32 * k) (sumC (l.getD k [])) := by
  rcases h with rfl | ⟨B, o, h1, h2, h3⟩
  · simp at hk
  · refine ⟨B, o, h1, h2, h3 k _ ?_⟩
    rw [List.getD_eq_getElem?_getD, List.getElem?_eq_getElem hk]; rfl
/-- A sector's bytes, where it lies. -/
theorem sum_bytes {W : World} {B off : Nat} {s : List Int} (h : W.rangeAt B off (sumC s)) (hB : B < W.heap.size) : BytesAt W (some ⟨B, off, none⟩) 32 (natF s) := .inr ⟨B, off, rfl, hB, fun j hj => h j _ (sumC_get s hj)⟩
end Go.Proofs.YtccpecajbfpjdaaDoor

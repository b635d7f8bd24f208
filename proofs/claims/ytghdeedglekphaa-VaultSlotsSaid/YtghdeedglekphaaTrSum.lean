/- Sectors by value and in slices: loaded, built, held against one another. Conditions: as each says. -/
import Derived.Test.YtghdeedglekphaaTrGives
import Derived.Test.YtghdeedglekphaaTrNum
namespace Go.Proofs.Ytghdeedglekphaa
open Go.ChangeShapes Go.WideShapes Go.ChangeAt Go.RowKit
set_option linter.unusedVariables false

def sumC (s : List Int) : List Value := (cellsOf .u8 (mk 32 (natF s))).toList
theorem sumC_len (s : List Int) : (sumC s).length = 32 := by unfold sumC; rw [Array.length_toList, cellsOf_size, mk_len]
theorem sumC_one (s : List Int) : ∀ u ∈ sumC s, u.oneCell' = true := fun u hu => (Array.all_eq_true_iff_forall_mem.1 (cellsOf_one .u8 (mk 32 (natF s)))) u (by simpa [sumC] using hu)
theorem sumC_get (s : List Int) {j : Nat} (h : j < 32) : (sumC s)[j]? = some (.int .u8 (natF s j : Nat)) := by
  unfold sumC
  rw [Array.getElem?_toList, cellsOf_get .u8 _ (by rw [mk_len]; exact h), mk_get h]
theorem sumC_arr (s : List Int) : (sumC s).toArray = cellsOf .u8 (mk 32 (natF s)) := by unfold sumC; simp
theorem sumUnder : Try.prog.underlying 50 = some (.array 32 5) := Try.underlying50
theorem sum_eq (f g : Nat → Nat) (w : World) : (Op.equalIn 10000 50 (.agg (cellsOf .u8 (mk 32 f))) (.agg (cellsOf .u8 (mk 32 g)))).run Try.prog w = .ok (mk 32 f == mk 32 g) w :=
  run_equalIn_ints w 9998 (mk 32 f) (mk 32 g) (by rw [mk_len]; exact sumUnder) byteElem (by rw [mk_len, mk_len])
def sumVal (s : List Int) : Value := .agg (cellsOf .u8 (mk 32 (natF s)))
theorem sumVal_arr (s : List Int) : Value.agg (sumC s).toArray = sumVal s := by unfold sumVal; rw [sumC_arr]
theorem sumSz : (Try.prog.info? 50).map (·.size) = some 32 := by kernel_rfl
theorem sumZro : (Try.prog.info? 50).bind (·.zero) = some (sumVal []) := by kernel_rfl
theorem elemSum : ElemOf Try.prog 42 50 32 32 sumC where
  under := Try.underlying42
  size := sumSz
  bytes := by kernel_rfl
  zero := ⟨sumVal [], sumZro, by kernel_rfl⟩
  len := sumC_len
  one := sumC_one
  pos := by decide
def sameSum (x y : List Int) : Bool := mk 32 (natF x) == mk 32 (natF y)
theorem sameSum_iff {x y : List Int} (hx : IsSum x) (hy : IsSum y) : sameSum x y = true ↔ x = y := by
  unfold sameSum
  rw [hx.mk', hy.mk', beq_iff_eq]
theorem sumC_size (s : List Int) : (Try.prog.info? 50).map (·.size) = some (sumC s).length := by rw [sumC_len]; exact sumSz
section
variable {ops : Array Oper} {rest : List Oper} {o : Oper} {a : Act} {w : World} {Q : Exit → Act → World → Prop} {C : World → Prop} {K : Act → Prop}
theorem wpList_sum_mid (hgd : o.guard = none) (x : Operand) (ho : o.op = .load 50 x) (B off : Nat) (hx : a.eval x = .pointer (some ⟨B, off, none⟩)) (s : List Int) (hc : w.rangeAt B off (sumC s)) (h : wpList Try.prog ops Q rest (a.put o.dst (sumVal s)) w) : wpList Try.prog ops Q (o :: rest) a w :=
  wpList_load_mid hgd _ x ho B off hx (sumC s) _ hc Try.underlying50 rfl (sumC_size s) (by rw [sumVal_arr]; exact h)
theorem gives_sum_mid (x : Operand) (ho : o.op = .load 50 x) (B off : Nat) (hx : a.eval x = .pointer (some ⟨B, off, none⟩)) (s : List Int) (hc : ∀ w, C w → w.rangeAt B off (sumC s)) (hk : K (a.put o.dst (sumVal s))) : ∃ v, Gives Try.prog C o a v ∧ K (a.put o.dst v) :=
  ⟨_, fun w hw => by
    unfold execOp
    simp only [ho, hx, Instr.loadAt, Instr.sureAddr, Sem.run_bind, Sem.run_pure, Result.andThen_ok, run_loadVar_mid w B off 50 (sumC s) _ (hc w hw) Try.underlying50 rfl (sumC_size s)]
    rw [sumVal_arr], hk⟩
theorem sum_addr (x y : Operand) (ho : o.op = .indexAddr 42 x y) (B off n cap k : Nat) (hx : a.eval x = .slice (some ⟨B, off, none⟩) n cap) (hy : a.eval y = .int .i64 k) (hk : k < n) (w : World) : (execOp a.eval o).run Try.prog w = .ok (.value (.pointer (some ⟨B, off + 32 * k, none⟩))) w := by
  have h0 : (k : Int) < n := by omega
  have hi := sumSz
  cases hq : Try.prog.info? 50 with
  | none => simp [hq] at hi
  | some i =>
    have hs : i.size = 32 := by simpa [hq] using hi
    unfold execOp
    simp only [ho, hx, hy]
    simp [go_sem, Try.underlying42, h0, sizeOf, typeInfo, hq, hs, addr_add, Nat.mul_comm]
theorem wpList_sum_elem (hw : Region.wanted o (yielded ops a.tmps) = true) (x y : Operand) (ho : o.op = .indexAddr 42 x y) (B off n cap k : Nat) (hx : a.eval x = .slice (some ⟨B, off, none⟩) n cap) (hy : a.eval y = .int .i64 k) (hk : k < n) (h : wpList Try.prog ops Q rest (a.put o.dst (.pointer (some ⟨B, off + 32 * k, none⟩))) w) : wpList Try.prog ops Q (o :: rest) a w :=
  wanted_step hw fun K hK => by
    unfold Oper.wp
    rw [sum_addr x y ho B off n cap k hx hy hk w]
    exact hK _ _ h
theorem gives_sum_elem (x y : Operand) (ho : o.op = .indexAddr 42 x y) (B off n cap k : Nat) (hx : a.eval x = .slice (some ⟨B, off, none⟩) n cap) (hy : a.eval y = .int .i64 k) (hk' : k < n) (hk : K (a.put o.dst (.pointer (some ⟨B, off + 32 * k, none⟩)))) : ∃ v, Gives Try.prog C o a v ∧ K (a.put o.dst v) :=
  ⟨_, fun w _ => sum_addr x y ho B off n cap k hx hy hk' w, hk⟩
theorem exec_sum_neq (x y : Operand) (ho : o.op = .binOp .neq 50 x y 50) (c d : List Int) (hx : a.eval x = sumVal c) (hy : a.eval y = sumVal d) (w : World) : (execOp a.eval o).run Try.prog w = .ok (.value (.bool (!(sameSum c d)))) w := by
  unfold execOp
  simp only [ho, hx, hy]
  unfold sumVal
  have e := run_neq_struct (P := Try.prog) w 50 (cellsOf .u8 (mk 32 (natF c))) (cellsOf .u8 (mk 32 (natF d)))
  rw [sum_eq] at e
  have g := run_eqGuard_agg (P := Try.prog) w .neq 50 x y (cellsOf .u8 (mk 32 (natF c))) (cellsOf .u8 (mk 32 (natF d))) (by kernel_rfl)
  simp only [Sem.run_bind, g, e, Result.andThen_ok, Sem.run_pure]
  rfl
theorem gives_sum_neq2 (x y : Operand) (ho : o.op = .binOp .neq 50 x y 50) (c d : List Int) (hx : a.eval x = sumVal c) (hy : a.eval y = sumVal d) (v : Bool) (hv : (!(sameSum c d)) = v) (hk : K (a.put o.dst (.bool v))) : ∃ v, Gives Try.prog C o a v ∧ K (a.put o.dst v) :=
  ⟨_, fun w _ => by subst hv; exact exec_sum_neq x y ho c d hx hy w, hk⟩
theorem exec_sum_eql (x y : Operand) (ho : o.op = .binOp .eql 50 x y 50) (c d : List Int) (hx : a.eval x = sumVal c) (hy : a.eval y = sumVal d) (w : World) : (execOp a.eval o).run Try.prog w = .ok (.value (.bool (sameSum c d))) w := by
  unfold execOp
  simp only [ho, hx, hy]
  unfold sumVal
  have e := run_eql_struct (P := Try.prog) w 50 (cellsOf .u8 (mk 32 (natF c))) (cellsOf .u8 (mk 32 (natF d)))
  rw [sum_eq] at e
  have g := run_eqGuard_agg (P := Try.prog) w .eql 50 x y (cellsOf .u8 (mk 32 (natF c))) (cellsOf .u8 (mk 32 (natF d))) (by kernel_rfl)
  simp only [Sem.run_bind, g, e, Result.andThen_ok, Sem.run_pure]
  rfl
theorem fill_sum1 (s : List Int) : Instr.fill (fun i => some (i * 32, 32)) ((Array.range (1 * 32)).map ((sumVal []).cells[· % (sumVal []).cells.size]!)) [(0, sumVal s)] = some (sumC s).toArray := by kernel_rfl
theorem run_sum1 (s : List Int) (w : World) : (Instr.buildSlice 42 1 #[(0, sumVal s)]).run Try.prog w = .ok (.slice (some ⟨w.heap.size, 0, none⟩) 1 1) (w.alloc (.cells (sumC s).toArray 50)) := by
  have hi := sumSz
  have hz := sumZro
  cases hq : Try.prog.info? 50 with
  | none => rw [hq] at hi; simp at hi
  | some i =>
    rw [hq] at hi hz
    have hs : i.size = 32 := by simpa using hi
    have hzz : i.zero = some (sumVal []) := by simpa using hz
    refine run_buildSlice w 42 50 1 _ _ i _ Try.underlying42 hq hzz (by rw [hs]; omega) (by rw [hs]; omega) ?_
    rw [hs]; exact fill_sum1 s
theorem wpList_sum1 (hgd : o.guard = none) (x : Operand) (ho : o.op = .buildSlice 42 1 #[(0, x)]) (s : List Int) (hx : a.eval x = sumVal s)
    (h : wpList Try.prog ops Q rest (a.put o.dst (.slice (some ⟨w.heap.size, 0, none⟩) 1 1)) (w.alloc (.cells (sumC s).toArray 50))) : wpList Try.prog ops Q (o :: rest) a w :=
  wpList_plain hgd fun _ hK => by
    have e := run_sum1 s w
    unfold Oper.wp execOp
    simp only [ho]
    simp [hx, e]
    exact hK _ _ h
theorem done_sum1 {K : Value → World → Prop} (x : Operand) (ho : o.op = .buildSlice 42 1 #[(0, x)]) (s : List Int) (hx : a.eval x = sumVal s)
    (h : K (.slice (some ⟨w.heap.size, 0, none⟩) 1 1) (w.alloc (.cells (sumC s).toArray 50))) : doneAt Try.prog o a w K := by
  have e := run_sum1 s w
  unfold doneAt execOp
  simp only [ho]
  simp [hx, e]
  exact h
theorem fill_sum2 (s u : List Int) : Instr.fill (fun i => some (i * 32, 32)) ((Array.range (2 * 32)).map ((sumVal []).cells[· % (sumVal []).cells.size]!)) [(0, sumVal s), (1, sumVal u)] = some ([s, u].flatMap sumC).toArray := by kernel_rfl
theorem run_sum2 (s u : List Int) (w : World) : (Instr.buildSlice 42 2 #[(0, sumVal s), (1, sumVal u)]).run Try.prog w = .ok (.slice (some ⟨w.heap.size, 0, none⟩) 2 2) (w.alloc (.cells ([s, u].flatMap sumC).toArray 50)) := by
  have hi := sumSz
  have hz := sumZro
  cases hq : Try.prog.info? 50 with
  | none => rw [hq] at hi; simp at hi
  | some i =>
    rw [hq] at hi hz
    have hs : i.size = 32 := by simpa using hi
    have hzz : i.zero = some (sumVal []) := by simpa using hz
    refine run_buildSlice w 42 50 2 _ _ i _ Try.underlying42 hq hzz (by rw [hs]; omega) (by rw [hs]; omega) ?_
    rw [hs]; exact fill_sum2 s u
theorem done_sum2 {K : Value → World → Prop} (x y : Operand) (ho : o.op = .buildSlice 42 2 #[(0, x), (1, y)]) (s u : List Int) (hx : a.eval x = sumVal s) (hy : a.eval y = sumVal u)
    (h : K (.slice (some ⟨w.heap.size, 0, none⟩) 2 2) (w.alloc (.cells ([s, u].flatMap sumC).toArray 50))) : doneAt Try.prog o a w K := by
  have e := run_sum2 s u w
  unfold doneAt execOp
  simp only [ho]
  simp [hx, hy, e]
  exact h
end
/-- A new block that holds a list's cells. -/
theorem rows_new {α : Type} {sz : Nat} {C : α → List Value} (hC : ∀ c, (C c).length = sz) (w : World) (l : List α) (e : TypeId) : RowsAt sz C (w.alloc (.cells (l.flatMap C).toArray e)) (some ⟨w.heap.size, 0, none⟩) l :=
  .inr ⟨w.heap.size, 0, rfl, by simp, fun i d hd j v hv => by
    have hj : j < sz := by rw [← hC d]; exact (List.getElem?_eq_some_iff.1 hv).1
    rw [cell_of_row _ _ _ _ _ _ (heap_alloc_new w (.cells (l.flatMap C).toArray e)), Nat.zero_add, Nat.mul_comm, List.getElem?_toArray, flatMap_at hC l i j d hd hj]
    exact hv⟩
theorem own_new {α : Type} {e : TypeId} {sz : Nat} {C : α → List Value} (hC : ∀ c, (C c).length = sz) (w : World) (l : List α) (base : Nat) (hb : base ≤ w.heap.size) (hl : l.length ≤ 1000000) : OwnL e sz C (w.alloc (.cells (l.flatMap C).toArray e)) base (w.heap.size + 1) (.slice (some ⟨w.heap.size, 0, none⟩) l.length l.length) l :=
  .inr ⟨w.heap.size, l.length, _, rfl, hb, by omega, heap_alloc_new _ _, Nat.le_refl _, by unfold maxLen; omega, by rw [List.size_toArray, flatMap_len hC], by rw [List.take_of_length_le (Nat.le_of_eq (flatMap_len hC l))]⟩
theorem rows_sum1 (w : World) (s : List Int) : RowsAt 32 sumC (w.alloc (.cells (sumC s).toArray 50)) (some ⟨w.heap.size, 0, none⟩) [s] := by
  have := rows_new sumC_len w [s] 50
  simpa using this
theorem sumsAt_get {W : World} {q : Option Addr} {l : List (List Int)} (h : RowsAt 32 sumC W q l) {k : Nat} (hk : k < l.length) : ∃ B o, q = some ⟨B, o, none⟩ ∧ B < W.heap.size ∧ W.rangeAt B (o + 32 * k) (sumC (l.getD k [])) := by
  rcases h with rfl | ⟨B, o, h1, h2, h3⟩
  · simp at hk
  · refine ⟨B, o, h1, h2, h3 k _ ?_⟩
    rw [List.getD_eq_getElem?_getD, List.getElem?_eq_getElem hk]; rfl
/-- A sector's bytes, where it lies. -/
theorem sum_bytes {W : World} {B off : Nat} {s : List Int} (h : W.rangeAt B off (sumC s)) (hB : B < W.heap.size) : BytesAt W (some ⟨B, off, none⟩) 32 (natF s) := .inr ⟨B, off, rfl, hB, fun j hj => h j _ (sumC_get s hj)⟩
end Go.Proofs.Ytghdeedglekphaa

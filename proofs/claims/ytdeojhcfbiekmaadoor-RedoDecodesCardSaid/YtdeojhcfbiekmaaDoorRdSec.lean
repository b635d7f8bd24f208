/- Sectors by value and in slices: loaded, built, held against one another. Conditions: as each says. -/
import Derived.Test.YtdeojhcfbiekmaaDoorRdGives
namespace Go.Proofs.YtdeojhcfbiekmaaDoor
open Go.ChangeShapes Go.WideShapes Go.ChangeAt Go.RowKit
set_option linter.unusedVariables false

def secVal (s : List Int) : Value := .agg (cellsOf .u8 (mk 128 (natF s)))
theorem secVal_arr (s : List Int) : Value.agg (secC s).toArray = secVal s := by unfold secVal; rw [secC_arr]
theorem secSz : (Tryd.prog.info? 31).map (·.size) = some 128 := by kernel_rfl
theorem secZro : (Tryd.prog.info? 31).bind (·.zero) = some (secVal []) := by kernel_rfl
theorem elemSec : ElemOf Tryd.prog 25 31 128 128 secC where
  under := Tryd.underlying25
  size := secSz
  bytes := by kernel_rfl
  zero := ⟨secVal [], secZro, by kernel_rfl⟩
  len := secC_len
  one := secC_one
  pos := by decide
def sameSec (x y : List Int) : Bool := mk 128 (natF x) == mk 128 (natF y)
theorem sameSec_iff {x y : List Int} (hx : IsSec x) (hy : IsSec y) : sameSec x y = true ↔ x = y := by
  unfold sameSec
  rw [hx.mk', hy.mk', beq_iff_eq]
theorem secC_size (s : List Int) : (Tryd.prog.info? 31).map (·.size) = some (secC s).length := by rw [secC_len]; exact secSz
section
variable {ops : Array Oper} {rest : List Oper} {o : Oper} {a : Act} {w : World} {Q : Exit → Act → World → Prop} {C : World → Prop} {K : Act → Prop}
theorem wpList_sec_mid (hgd : o.guard = none) (x : Operand) (ho : o.op = .load 31 x) (B off : Nat) (hx : a.eval x = .pointer (some ⟨B, off, none⟩)) (s : List Int) (hc : w.rangeAt B off (secC s)) (h : wpList Tryd.prog ops Q rest (a.put o.dst (secVal s)) w) : wpList Tryd.prog ops Q (o :: rest) a w :=
  wpList_load_mid hgd _ x ho B off hx (secC s) _ hc Tryd.underlying31 rfl (secC_size s) (by rw [secVal_arr]; exact h)
theorem gives_sec_mid (x : Operand) (ho : o.op = .load 31 x) (B off : Nat) (hx : a.eval x = .pointer (some ⟨B, off, none⟩)) (s : List Int) (hc : ∀ w, C w → w.rangeAt B off (secC s)) (hk : K (a.put o.dst (secVal s))) : ∃ v, Gives Tryd.prog C o a v ∧ K (a.put o.dst v) :=
  ⟨_, fun w hw => by
    unfold execOp
    simp only [ho, hx, Instr.loadAt, Instr.sureAddr, Sem.run_bind, Sem.run_pure, Result.andThen_ok, run_loadVar_mid w B off 31 (secC s) _ (hc w hw) Tryd.underlying31 rfl (secC_size s)]
    rw [secVal_arr], hk⟩
theorem sec_addr (x y : Operand) (ho : o.op = .indexAddr 25 x y) (B off n cap k : Nat) (hx : a.eval x = .slice (some ⟨B, off, none⟩) n cap) (hy : a.eval y = .int .i64 k) (hk : k < n) (w : World) : (execOp a.eval o).run Tryd.prog w = .ok (.value (.pointer (some ⟨B, off + 128 * k, none⟩))) w := by
  have h0 : (k : Int) < n := by omega
  have hi := secSz
  cases hq : Tryd.prog.info? 31 with
  | none => simp [hq] at hi
  | some i =>
    have hs : i.size = 128 := by simpa [hq] using hi
    unfold execOp
    simp only [ho, hx, hy]
    simp [go_sem, Tryd.underlying25, h0, sizeOf, typeInfo, hq, hs, addr_add, Nat.mul_comm]
theorem wpList_sec_elem (hw : Region.wanted o (yielded ops a.tmps) = true) (x y : Operand) (ho : o.op = .indexAddr 25 x y) (B off n cap k : Nat) (hx : a.eval x = .slice (some ⟨B, off, none⟩) n cap) (hy : a.eval y = .int .i64 k) (hk : k < n) (h : wpList Tryd.prog ops Q rest (a.put o.dst (.pointer (some ⟨B, off + 128 * k, none⟩))) w) : wpList Tryd.prog ops Q (o :: rest) a w :=
  wanted_step hw fun K hK => by
    unfold Oper.wp
    rw [sec_addr x y ho B off n cap k hx hy hk w]
    exact hK _ _ h
theorem gives_sec_elem (x y : Operand) (ho : o.op = .indexAddr 25 x y) (B off n cap k : Nat) (hx : a.eval x = .slice (some ⟨B, off, none⟩) n cap) (hy : a.eval y = .int .i64 k) (hk' : k < n) (hk : K (a.put o.dst (.pointer (some ⟨B, off + 128 * k, none⟩)))) : ∃ v, Gives Tryd.prog C o a v ∧ K (a.put o.dst v) :=
  ⟨_, fun w _ => sec_addr x y ho B off n cap k hx hy hk' w, hk⟩
theorem exec_sec_neq (x y : Operand) (ho : o.op = .binOp .neq 31 x y 31) (c d : List Int) (hx : a.eval x = secVal c) (hy : a.eval y = secVal d) (w : World) : (execOp a.eval o).run Tryd.prog w = .ok (.value (.bool (!(sameSec c d)))) w := by
  unfold execOp
  simp only [ho, hx, hy]
  unfold secVal
  have e := run_neq_struct (P := Tryd.prog) w 31 (cellsOf .u8 (mk 128 (natF c))) (cellsOf .u8 (mk 128 (natF d)))
  rw [sec_eq] at e
  have g := run_eqGuard_agg (P := Tryd.prog) w .neq 31 x y (cellsOf .u8 (mk 128 (natF c))) (cellsOf .u8 (mk 128 (natF d))) (by kernel_rfl)
  simp only [Sem.run_bind, g, e, Result.andThen_ok, Sem.run_pure]
  rfl
theorem gives_sec_neq2 (x y : Operand) (ho : o.op = .binOp .neq 31 x y 31) (c d : List Int) (hx : a.eval x = secVal c) (hy : a.eval y = secVal d) (v : Bool) (hv : (!(sameSec c d)) = v) (hk : K (a.put o.dst (.bool v))) : ∃ v, Gives Tryd.prog C o a v ∧ K (a.put o.dst v) :=
  ⟨_, fun w _ => by subst hv; exact exec_sec_neq x y ho c d hx hy w, hk⟩
theorem exec_sec_eql (x y : Operand) (ho : o.op = .binOp .eql 31 x y 31) (c d : List Int) (hx : a.eval x = secVal c) (hy : a.eval y = secVal d) (w : World) : (execOp a.eval o).run Tryd.prog w = .ok (.value (.bool (sameSec c d))) w := by
  unfold execOp
  simp only [ho, hx, hy]
  unfold secVal
  have e := run_eql_struct (P := Tryd.prog) w 31 (cellsOf .u8 (mk 128 (natF c))) (cellsOf .u8 (mk 128 (natF d)))
  rw [sec_eq] at e
  have g := run_eqGuard_agg (P := Tryd.prog) w .eql 31 x y (cellsOf .u8 (mk 128 (natF c))) (cellsOf .u8 (mk 128 (natF d))) (by kernel_rfl)
  simp only [Sem.run_bind, g, e, Result.andThen_ok, Sem.run_pure]
  rfl
theorem fill_sec1 (s : List Int) : Instr.fill (fun i => some (i * 128, 128)) ((Array.range (1 * 128)).map ((secVal []).cells[· % (secVal []).cells.size]!)) [(0, secVal s)] = some (secC s).toArray := by kernel_rfl
theorem run_sec1 (s : List Int) (w : World) : (Instr.buildSlice 25 1 #[(0, secVal s)]).run Tryd.prog w = .ok (.slice (some ⟨w.heap.size, 0, none⟩) 1 1) (w.alloc (.cells (secC s).toArray 31)) := by
  have hi := secSz
  have hz := secZro
  cases hq : Tryd.prog.info? 31 with
  | none => rw [hq] at hi; simp at hi
  | some i =>
    rw [hq] at hi hz
    have hs : i.size = 128 := by simpa using hi
    have hzz : i.zero = some (secVal []) := by simpa using hz
    refine run_buildSlice w 25 31 1 _ _ i _ Tryd.underlying25 hq hzz (by rw [hs]; omega) (by rw [hs]; omega) ?_
    rw [hs]; exact fill_sec1 s
theorem wpList_sec1 (hgd : o.guard = none) (x : Operand) (ho : o.op = .buildSlice 25 1 #[(0, x)]) (s : List Int) (hx : a.eval x = secVal s)
    (h : wpList Tryd.prog ops Q rest (a.put o.dst (.slice (some ⟨w.heap.size, 0, none⟩) 1 1)) (w.alloc (.cells (secC s).toArray 31))) : wpList Tryd.prog ops Q (o :: rest) a w :=
  wpList_plain hgd fun _ hK => by
    have e := run_sec1 s w
    unfold Oper.wp execOp
    simp only [ho]
    simp [hx, e]
    exact hK _ _ h
theorem done_sec1 {K : Value → World → Prop} (x : Operand) (ho : o.op = .buildSlice 25 1 #[(0, x)]) (s : List Int) (hx : a.eval x = secVal s)
    (h : K (.slice (some ⟨w.heap.size, 0, none⟩) 1 1) (w.alloc (.cells (secC s).toArray 31))) : doneAt Tryd.prog o a w K := by
  have e := run_sec1 s w
  unfold doneAt execOp
  simp only [ho]
  simp [hx, e]
  exact h
theorem fill_sec2 (s u : List Int) : Instr.fill (fun i => some (i * 128, 128)) ((Array.range (2 * 128)).map ((secVal []).cells[· % (secVal []).cells.size]!)) [(0, secVal s), (1, secVal u)] = some ([s, u].flatMap secC).toArray := by kernel_rfl
theorem run_sec2 (s u : List Int) (w : World) : (Instr.buildSlice 25 2 #[(0, secVal s), (1, secVal u)]).run Tryd.prog w = .ok (.slice (some ⟨w.heap.size, 0, none⟩) 2 2) (w.alloc (.cells ([s, u].flatMap secC).toArray 31)) := by
  have hi := secSz
  have hz := secZro
  cases hq : Tryd.prog.info? 31 with
  | none => rw [hq] at hi; simp at hi
  | some i =>
    rw [hq] at hi hz
    have hs : i.size = 128 := by simpa using hi
    have hzz : i.zero = some (secVal []) := by simpa using hz
    refine run_buildSlice w 25 31 2 _ _ i _ Tryd.underlying25 hq hzz (by rw [hs]; omega) (by rw [hs]; omega) ?_
    rw [hs]; exact fill_sec2 s u
theorem done_sec2 {K : Value → World → Prop} (x y : Operand) (ho : o.op = .buildSlice 25 2 #[(0, x), (1, y)]) (s u : List Int) (hx : a.eval x = secVal s) (hy : a.eval y = secVal u)
    (h : K (.slice (some ⟨w.heap.size, 0, none⟩) 2 2) (w.alloc (.cells ([s, u].flatMap secC).toArray 31))) : doneAt Tryd.prog o a w K := by
  have e := run_sec2 s u w
  unfold doneAt execOp
  simp only [ho]
  simp [hx, hy, e]
  exact h
end
/-- A new block that holds a list's cells. -/
theorem rows_new {α : Type} {sz : Nat} {C : α → List Value} (hC : ∀ c, (C c).length = sz) (w : World) (l : List α) (e : TypeId) : RowsAt sz C (w.alloc (.cells (l.flatMap C).toArray e)) (some ⟨w.heap.size, 0, none⟩) l :=
  .inr ⟨w.heap.size, 0, rfl, by simp, fun i d hd j v hv => by
    have hj : j < sz := by rw [← hC d]; exact (List.getElem?_eq_some_iff.1 hv).1
    rw [cell_of_row _ _ _ _ _ _ (heap_alloc_new w (.cells (l.flatMap C).toArray e)), Nat.zero_add, Nat.mul_comm, List.getElem?_toArray, flatMap_at hC l i j d hd hj]
    exact hv⟩
theorem own_new {α : Type} {e : TypeId} {sz : Nat} {C : α → List Value} (hC : ∀ c, (C c).length = sz) (w : World) (l : List α) (base : Nat) (hb : base ≤ w.heap.size) (hl : l.length ≤ 1000000) : OwnL e sz C (w.alloc (.cells (l.flatMap C).toArray e)) base (w.heap.size + 1) (.slice (some ⟨w.heap.size, 0, none⟩) l.length l.length) l :=
  .inr ⟨w.heap.size, l.length, _, rfl, hb, by omega, heap_alloc_new _ _, Nat.le_refl _, by unfold maxLen; omega, by rw [List.size_toArray, flatMap_len hC], by rw [List.take_of_length_le (Nat.le_of_eq (flatMap_len hC l))]⟩
theorem rows_sec1 (w : World) (s : List Int) : RowsAt 128 secC (w.alloc (.cells (secC s).toArray 31)) (some ⟨w.heap.size, 0, none⟩) [s] := by
  have := rows_new secC_len w [s] 31
  simpa using this
theorem secsAt_get {W : World} {q : Option Addr} {l : List (List Int)} (h : RowsAt 128 secC W q l) {k : Nat} (hk : k < l.length) : ∃ B o, q = some ⟨B, o, none⟩ ∧ B < W.heap.size ∧ W.rangeAt B (o + 128 * k) (secC (l.getD k [])) := by
  rcases h with rfl | ⟨B, o, h1, h2, h3⟩
  · simp at hk
  · refine ⟨B, o, h1, h2, h3 k _ ?_⟩
    rw [List.getD_eq_getElem?_getD, List.getElem?_eq_getElem hk]; rfl
/-- A sector's bytes, where it lies. -/
theorem sec_bytes {W : World} {B off : Nat} {s : List Int} (h : W.rangeAt B off (secC s)) (hB : B < W.heap.size) : BytesAt W (some ⟨B, off, none⟩) 128 (natF s) := .inr ⟨B, off, rfl, hB, fun j hj => h j _ (secC_get s hj)⟩
end Go.Proofs.YtdeojhcfbiekmaaDoor

/- Strings of bytes in regions walked by one order: made, joined, compared. No condition. -/
import Derived.Test.YtghdeedglekphaaPlBase
namespace Go.Proofs.Ytghdeedglekphaa
open Go.ChangeShapes Go.WideShapes Go.ChangeAt Go.RowKit Go.Shelf
set_option linter.unusedVariables false


/-- One row and then another. -/
def cat (n : Nat) (g h : Nat → Nat) : Nat → Nat := fun j => if j < n then g j else h (j - n)
/-! ### Strings in regions walked by one order -/
theorem run_str (p : Option Addr) (n cap : Nat) (g : Nat → Nat) (w : World) (hp : BytesAt w p n g) : (convert 22 9 (.slice p n cap)).run Try.prog w = .ok (.string (strOfNums (mk n g))) w := by
  by_cases h0 : n = 0
  · subst h0
    rw [run_convert_bytes_string w _ _ 5 p 0 cap bytesUnder byteUnder1 stringUnder1]
    cases p with
    | none => rfl
    | some ad =>
      rw [run_bytesToString w ad 0 cap [] (by simpa using run_loadCells_list (P := Try.prog) w ad [] (fun j v hj => by simp at hj))]
      rfl
  · rcases hp with hp | ⟨B, off, rfl, hB, hc⟩
    · exact absurd hp h0
    · exact run_convert_bytes_arg w _ 5 bytesUnder byteUnder1 B off n cap (mk n g) (mk_len n g) (fun i hi => by rw [mk_get hi]; exact hc i hi) _ stringUnder1
section
variable {o : Oper} {a : Act} {C : World → Prop} {K : Act → Prop}
theorem gives_string (x : Operand) (ho : o.op = .convert 22 9 x) (p : Option Addr) (n cap : Nat) (hx : a.eval x = .slice p n cap) (g : Nat → Nat) (hp : ∀ W, C W → BytesAt W p n g) (hk : K (a.put o.dst (.string (strOfNums (mk n g))))) : ∃ v, Gives Try.prog C o a v ∧ K (a.put o.dst v) :=
  ⟨_, fun w hw => by
    have hr := run_str p n cap g w (hp w hw)
    unfold execOp
    simp only [ho, hx]
    simp [hr], hk⟩
theorem done_string {w : World} {K : Value → World → Prop} (x : Operand) (ho : o.op = .convert 22 9 x) (p : Option Addr) (n cap : Nat) (hx : a.eval x = .slice p n cap) (g : Nat → Nat) (hp : BytesAt w p n g) (h : K (.string (strOfNums (mk n g))) w) : doneAt Try.prog o a w K := by
  have hr := run_str p n cap g w hp
  unfold doneAt execOp
  simp only [ho, hx]
  simp [hr]
  exact h
theorem str_size (n : Nat) (g : Nat → Nat) : (strOfNums (mk n g)).size = n := by
  show (strOfNums (mk n g)).data.size = n
  rw [← Array.length_toList, strOfNums_data]; simp [mk]
theorem str_cat (n k : Nat) (g h : Nat → Nat) : strOfNums (mk n g) ++ strOfNums (mk k h) = strOfNums (mk (n + k) (cat n g h)) := by
  have e : (strOfNums (mk n g) ++ strOfNums (mk k h)).data.toList = (strOfNums (mk (n + k) (cat n g h))).data.toList := by
    rw [ByteArray.data_append, Array.toList_append, strOfNums_data, strOfNums_data, strOfNums_data, ← List.map_append]
    congr 1
    apply List.ext_getElem
    · simp [mk]
    · intro i h1 h2
      have hi : i < n + k := by simpa [mk] using h2
      have get : ∀ (G : Nat → Nat) (M j : Nat) (hj : j < (mk M G).length), (mk M G)[j] = (G j : Int) := fun G M j hj => by simp [mk]
      rw [get]
      unfold cat
      by_cases e : i < n
      · rw [List.getElem_append_left (by rw [mk_len]; exact e), get, if_pos e]
      · rw [List.getElem_append_right (by rw [mk_len]; omega), get, if_neg e, mk_len]
  have e2 := Array.toList_inj.1 e
  exact congrArg ByteArray.mk e2
theorem gives_str_add (x y : Operand) (ho : o.op = .binOp .add 9 x y 9) (n k : Nat) (g h : Nat → Nat) (hx : a.eval x = .string (strOfNums (mk n g))) (hy : a.eval y = .string (strOfNums (mk k h))) (hn : n + k ≤ 1000000000) (hk : K (a.put o.dst (.string (strOfNums (mk (n + k) (cat n g h)))))) : ∃ v, Gives Try.prog C o a v ∧ K (a.put o.dst v) :=
  ⟨_, fun w _ => by
    have e := str_cat n k g h
    have s1 := str_size n g
    have s2 := str_size k h
    have hm : ¬ (IntKind.i64.max < ((n + k : Nat) : Int)) := by
      have : IntKind.i64.max = 9223372036854775807 := by decide
      omega
    unfold execOp
    simp only [ho, hx, hy]
    simp only [go_sem, Op.stringOp, s1, s2, e]
    rw [if_neg (by rw [gt_iff_lt]; exact hm)]
    rfl, hk⟩
theorem gives_str_same (x y : Operand) (ho : o.op = .binOp .neq 9 x y 9) (s : ByteArray) (hx : a.eval x = .string s) (hy : a.eval y = .string s) (hk : K (a.put o.dst (.bool false))) : ∃ v, Gives Try.prog C o a v ∧ K (a.put o.dst v) :=
  ⟨_, fun w _ => by
    unfold execOp
    simp only [ho, hx, hy]
    simp [go_sem], hk⟩
theorem gives_no_err (x : Operand) (ho : o.op = .binOp .neq 29 x (.const .nilIface) 29) (hx : a.eval x = .nilIface) (hk : K (a.put o.dst (.bool false))) : ∃ v, Gives Try.prog C o a v ∧ K (a.put o.dst v) :=
  ⟨_, fun w _ => by
    unfold execOp
    simp only [ho, hx]
    simp [go_sem, Act.eval], hk⟩
end
theorem freeze_heap_other (w : World) (a : Addr) (n k : Nat) (h : k ≠ a.block) : (w.freeze a n).heap[k]? = w.heap[k]? := by
  unfold World.freeze
  split
  · rfl
  · simp only [Array.getElem?_modify, if_neg (Ne.symm h)]
theorem freeze_heap_same {w : World} {D : Nat} {cs : Array Value} {t : TypeId} {fr : Nat × Nat} (h : w.heap[D]? = some (.cells cs t fr)) (o n : Nat) : ∃ fr', (w.freeze ⟨D, o, none⟩ n).heap[D]? = some (.cells cs t fr') := by
  unfold World.freeze
  split
  · exact ⟨fr, h⟩
  · simp only [Array.getElem?_modify, if_true, h]
    exact ⟨_, rfl⟩
theorem freeze_size (w : World) (a : Addr) (n : Nat) : (w.freeze a n).heap.size = w.heap.size := by
  unfold World.freeze
  split
  · rfl
  · simp
theorem freeze_below (w : World) (D o n M : Nat) (h : M ≤ D) : Below M w (w.freeze ⟨D, o, none⟩ n) := by
  refine ⟨?_, ?_, ?_, by rw [freeze_size]; exact Nat.le_refl _, fun k hk => freeze_heap_other w _ n k (by show k ≠ D; omega)⟩ <;> (unfold World.freeze; split <;> rfl)
/-- A block's cells, whatever of it is marked. -/
def LitAt (w : World) (D n : Nat) (f : Nat → Nat) : Prop := ∃ fr, w.heap[D]? = some (.cells (cellsOf .u8 (mk n f)) 5 fr)
theorem LitAt.lt {w : World} {D n : Nat} {f : Nat → Nat} (h : LitAt w D n f) : D < w.heap.size := by obtain ⟨fr, h⟩ := h; exact (Array.getElem?_eq_some_iff.1 h).1
theorem LitAt.bytes {w : World} {D n : Nat} {f : Nat → Nat} (h : LitAt w D n f) : BytesAt w (some ⟨D, 0, none⟩) n f := by
  obtain ⟨fr, h⟩ := h
  refine .inr ⟨D, 0, rfl, (Array.getElem?_eq_some_iff.1 h).1, fun j hj => ?_⟩
  rw [Nat.zero_add, cell_of_row w D j _ _ fr h, cellsOf_get _ _ (by rw [mk_len]; exact hj), mk_get hj]
theorem LitAt.freeze {w : World} {D n : Nat} {f : Nat → Nat} (h : LitAt w D n f) (a : Addr) (m : Nat) (ha : a.spot = none) : LitAt (w.freeze a m) D n f := by
  obtain ⟨fr, h⟩ := h
  by_cases e : D = a.block
  · subst e
    obtain ⟨B, o, s⟩ := a
    simp only at ha h
    subst ha
    exact freeze_heap_same h o m
  · exact ⟨fr, by rw [freeze_heap_other w a m D e]; exact h⟩
theorem LitAt.alloc {w : World} {D n : Nat} {f : Nat → Nat} (h : LitAt w D n f) (o : Obj) : LitAt (w.alloc o) D n f := by
  obtain ⟨fr, h⟩ := h
  exact ⟨fr, by rw [Below.heap_alloc _ _ _ (Array.getElem?_eq_some_iff.1 h).1]; exact h⟩
theorem LitAt.below {w w' : World} {D n M : Nat} {f : Nat → Nat} (h : LitAt w D n f) (hb : Below M w w') (hM : D < M) : LitAt w' D n f := by
  obtain ⟨fr, h⟩ := h
  exact ⟨fr, (hb.block D hM).trans h⟩
theorem run_conv_lit {w : World} {D n c : Nat} {cs : Array Value} {t : TypeId} {fr : Nat × Nat} (h : w.heap[D]? = some (.cells cs t fr)) : (convert 22 22 (.slice (some ⟨D, 0, none⟩) n c)).run Try.prog w = .ok (.slice (some ⟨D, 0, none⟩) n c) (w.freeze ⟨D, cs.size, none⟩ 1) := by
  have hsh : w.shape? D = some (t, cs.size) := by unfold World.shape?; rw [h]
  simp [convert, run_underlying bytesUnder, run_underlying byteUnder1, markStringish, hsh]
section
variable {ops : Array Oper} {rest : List Oper} {o : Oper} {a : Act} {w : World} {Q : Exit → Act → World → Prop}
/-- A literal of bytes, turned to its own type. -/
theorem wpList_lit (hw : Region.wanted o (yielded ops a.tmps) = true) (x : Operand) (ho : o.op = .convert 22 22 x) (D n c : Nat) {cs : Array Value} {t : TypeId} {fr : Nat × Nat} (hx : a.eval x = .slice (some ⟨D, 0, none⟩) n c)
    (h : w.heap[D]? = some (.cells cs t fr)) (hk : wpList Try.prog ops Q rest (a.put o.dst (.slice (some ⟨D, 0, none⟩) n c)) (w.freeze ⟨D, cs.size, none⟩ 1)) : wpList Try.prog ops Q (o :: rest) a w :=
  wanted_step hw fun K hK => by
    have e := run_conv_lit (n := n) (c := c) h
    unfold Oper.wp execOp
    simp only [ho, hx, Sem.run_bind, e]
    exact hK _ _ hk
end
end Go.Proofs.Ytghdeedglekphaa

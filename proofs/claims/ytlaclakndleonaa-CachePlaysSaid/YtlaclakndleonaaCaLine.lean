/- Lines by value and in slices: loaded, boxed, built, held against one another. Conditions: as each says. -/
import Derived.Test.YtlaclakndleonaaCaNum
namespace Go.Proofs.Ytlaclakndleonaa
open Go.ChangeShapes Go.WideShapes Go.ChangeAt Go.RowKit
set_option linter.unusedVariables false

def secC (s : List Int) : List Value := (cellsOf .u8 (mk 128 (natF s))).toList
def lineC (l : LineOf) : List Value := .int .i64 l.u :: .int .i64 l.b :: (secC l.c ++ [.bool l.d])
theorem secC_len (s : List Int) : (secC s).length = 128 := by unfold secC; rw [Array.length_toList, cellsOf_size, mk_len]
theorem lineC_len (l : LineOf) : (lineC l).length = 131 := by unfold lineC; simp [secC_len]
theorem secC_one (s : List Int) : ∀ u ∈ secC s, u.oneCell' = true := fun u hu => (Array.all_eq_true_iff_forall_mem.1 (cellsOf_one .u8 (mk 128 (natF s)))) u (by simpa [secC] using hu)
theorem lineC_one (l : LineOf) : ∀ u ∈ lineC l, u.oneCell' = true := fun u hu => by
  unfold lineC at hu
  rcases List.mem_cons.1 hu with rfl | h
  · rfl
  rcases List.mem_cons.1 h with rfl | h
  · rfl
  rcases List.mem_append.1 h with h | h
  · exact secC_one l.c u h
  · obtain rfl : u = .bool l.d := by simpa using h
    rfl
theorem secC_arr (s : List Int) : (secC s).toArray = cellsOf .u8 (mk 128 (natF s)) := by unfold secC; simp
def lineZ : Value := .agg (lineC noLine).toArray
theorem lineSize : (Try.prog.info? 42).map (·.size) = some 131 := by kernel_rfl
theorem lineZero : (Try.prog.info? 42).bind (·.zero) = some lineZ := by kernel_rfl
theorem elemLine : ElemOf Try.prog 34 42 131 152 lineC where
  under := Try.underlying34
  size := lineSize
  bytes := by kernel_rfl
  zero := ⟨lineZ, lineZero, by kernel_rfl⟩
  len := lineC_len
  one := lineC_one
  pos := by decide
theorem lineZero_run (W : World) : (zeroValue 42).run Try.prog W = .ok lineZ W := by
  have h := lineZero
  cases hq : Try.prog.info? 42 with
  | none => rw [hq] at h; simp at h
  | some i =>
    rw [hq] at h
    simp only [Option.bind_some] at h
    simp [zeroValue, typeInfo, hq, h]
theorem lineC_0 (l : LineOf) : (lineC l)[0]? = some (.int .i64 l.u) := rfl
theorem lineC_1 (l : LineOf) : (lineC l)[1]? = some (.int .i64 l.b) := rfl
theorem lineC_d (l : LineOf) : (lineC l)[130]? = some (.bool l.d) := by
  unfold lineC
  show (secC l.c ++ [Value.bool l.d])[128]? = _
  rw [List.getElem?_append_right (by rw [secC_len]; omega), secC_len]; rfl
theorem line_part0 (c : LineOf) (w : World) : (part 3 (lineC c).toArray 0).run Try.prog w = .ok (.int .i64 c.u) w := by
  have h : (isAgg 3).run Try.prog w = .ok false w := by simp [go_sem]
  unfold part
  simp [h, lineC]
theorem line_part1 (c : LineOf) (w : World) : (part 3 (lineC c).toArray 1).run Try.prog w = .ok (.int .i64 c.b) w := by
  have h : (isAgg 3).run Try.prog w = .ok false w := by simp [go_sem]
  unfold part
  simp [h, lineC]
theorem line_part2 (c : LineOf) (w : World) : (part 40 (lineC c).toArray 2).run Try.prog w = .ok (.agg (cellsOf .u8 (mk 128 (natF c.c)))) w := by
  have h : (isAgg 40).run Try.prog w = .ok true w := by simp [go_sem]
  have hs : (sizeOf 40).run Try.prog w = .ok 128 w := by
    have hi : (Try.prog.info? 40).map (·.size) = some 128 := by kernel_rfl
    cases hq : Try.prog.info? 40 with
    | none => simp [hq] at hi
    | some i =>
      have hs : i.size = 128 := by simpa [hq] using hi
      simp [sizeOf, typeInfo, hq, hs]
  have e : (lineC c).toArray.extract 2 (2 + 128) = cellsOf .u8 (mk 128 (natF c.c)) := by
    apply Array.ext'
    rw [Array.toList_extract]
    show (secC c.c ++ [Value.bool c.d]).take 128 = _
    rw [List.take_append_of_le_length (by rw [secC_len]; omega), List.take_of_length_le (Nat.le_of_eq (secC_len _))]; rfl
  unfold part
  simp only [Sem.run_bind, h, hs, Result.andThen_ok, if_true, Sem.run_pure, e]
theorem line_part3 (c : LineOf) (w : World) : (part 4 (lineC c).toArray 130).run Try.prog w = .ok (.bool c.d) w := by
  have h : (isAgg 4).run Try.prog w = .ok false w := by simp [go_sem]
  have e := lineC_d c
  unfold part
  simp [h, e]
/-- Are two lines the same? -/
def sameLine (c d : LineOf) : Bool := c.u == d.u && (c.b == d.b && (mk 128 (natF c.c) == mk 128 (natF d.c) && c.d == d.d))
theorem sameLine_iff {c d : LineOf} (hc : c.ok) (hd : d.ok) : sameLine c d = true ↔ c = d := by
  unfold sameLine
  rw [IsSec.mk' hc.1, IsSec.mk' hd.1]
  simp only [Bool.and_eq_true, beq_iff_eq]
  exact ⟨fun h => LineOf.ext' h.1 h.2.1 h.2.2.1 h.2.2.2, fun h => by subst h; exact ⟨rfl, rfl, rfl, rfl⟩⟩
theorem line_eq (c d : LineOf) (w : World) : (Op.equalIn 10000 42 (.agg (lineC c).toArray) (.agg (lineC d).toArray)).run Try.prog w = .ok (sameLine c d) w := by
  have hS : Try.prog.underlying 42 = some (.struct (Try.prog.fieldsOf 42)) := by kernel_rfl
  have q1 : ∀ x y : Int, (Op.equalIn 9999 3 (.int .i64 x) (.int .i64 y)).run Try.prog w = .ok (x == y) w := fun x y => run_equalIn_int w 9998 3 .i64 .i64 _ _ Try.underlying3
  have q2 : (Op.equalIn 9999 40 (.agg (cellsOf .u8 (mk 128 (natF c.c)))) (.agg (cellsOf .u8 (mk 128 (natF d.c))))).run Try.prog w = .ok (mk 128 (natF c.c) == mk 128 (natF d.c)) w :=
    run_equalIn_ints w 9997 (mk 128 _) (mk 128 _) (by rw [mk_len]; exact secUnder) byteElem (by rw [mk_len, mk_len])
  have q3 : (Op.equalIn 9999 4 (.bool c.d) (.bool d.d)).run Try.prog w = .ok (c.d == d.d) w := run_equalIn_bool' w 9998 4 c.d d.d Try.underlying4
  rw [show (10000 : Nat) = 9999 + 1 from rfl, run_equalIn_agg w 9999 42 _ _ hS (by kernel_rfl)]
  simp only [Program.fieldsOf, Try.underlying42]
  simp only [Op.eqFields]
  unfold sameLine
  generalize hb : (mk 128 (natF c.c) == mk 128 (natF d.c)) = b at *
  have q1a := q1 c.u d.u
  have q1b := q1 c.b d.b
  generalize ha : (c.u == d.u) = a at *
  generalize he : (c.b == d.b) = e at *
  generalize hf : (c.d == d.d) = f at *
  rw [if_pos (by decide), if_pos (by decide)]
  simp only [Sem.run_bind, line_part0, q1a, Result.andThen_ok]
  cases a <;> cases b <;> cases e <;> cases f <;> simp [line_part1, line_part2, line_part3, q1b, q2, q3]
section
variable {ops : Array Oper} {rest : List Oper} {o : Oper} {a : Act} {w : World} {Q : Exit → Act → World → Prop} {C : World → Prop} {K : Act → Prop}
def lineV (c : LineOf) : Value := .agg (lineC c).toArray
theorem lineC_size (c : LineOf) : (Try.prog.info? 42).map (·.size) = some (lineC c).length := by rw [lineC_len]; exact lineSize
theorem lineA_size (c : LineOf) : (Try.prog.info? 42).map (·.size) = some (lineC c).toArray.size := by rw [List.size_toArray]; exact lineC_size c
theorem lineA_same (c d : LineOf) : (lineC c).toArray.size = (lineC d).toArray.size := by rw [List.size_toArray, List.size_toArray, lineC_len, lineC_len]
theorem lineA_one (c : LineOf) : (lineC c).toArray.all (·.oneCell') = true := Array.all_eq_true_iff_forall_mem.2 fun u hu => lineC_one c u (by simpa using hu)
theorem wpList_line_load (hgd : o.guard = none) (x : Operand) (ho : o.op = .load 42 x) (B off : Nat) (hx : a.eval x = .pointer (some ⟨B, off, none⟩)) (c : LineOf) (hc : w.rangeAt B off (lineC c)) (h : wpList Try.prog ops Q rest (a.put o.dst (lineV c)) w) : wpList Try.prog ops Q (o :: rest) a w :=
  wpList_load_mid hgd _ x ho B off hx (lineC c) _ hc Try.underlying42 rfl (lineC_size c) h
theorem gives_line_load (x : Operand) (ho : o.op = .load 42 x) (B off : Nat) (hx : a.eval x = .pointer (some ⟨B, off, none⟩)) (c : LineOf) (hc : ∀ w, C w → w.rangeAt B off (lineC c)) (hk : K (a.put o.dst (lineV c))) : ∃ v, Gives Try.prog C o a v ∧ K (a.put o.dst v) :=
  ⟨_, fun w hw => by
    unfold execOp
    simp only [ho, hx, Instr.loadAt, Instr.sureAddr, Sem.run_bind, Sem.run_pure, Result.andThen_ok, run_loadVar_mid w B off 42 (lineC c) _ (hc w hw) Try.underlying42 rfl (lineC_size c)]
    rfl, hk⟩
theorem line_addr (x y : Operand) (ho : o.op = .indexAddr 34 x y) (B off n cap k : Nat) (hx : a.eval x = .slice (some ⟨B, off, none⟩) n cap) (hy : a.eval y = .int .i64 k) (hk : k < n) (w : World) : (execOp a.eval o).run Try.prog w = .ok (.value (.pointer (some ⟨B, off + 131 * k, none⟩))) w := by
  have h0 : (k : Int) < n := by omega
  have hi := lineSize
  cases hq : Try.prog.info? 42 with
  | none => simp [hq] at hi
  | some i =>
    have hs : i.size = 131 := by simpa [hq] using hi
    unfold execOp
    simp only [ho, hx, hy]
    simp [go_sem, Try.underlying34, h0, sizeOf, typeInfo, hq, hs, addr_add, Nat.mul_comm]
theorem wpList_line_elem (hgd : o.guard = none) (x y : Operand) (ho : o.op = .indexAddr 34 x y) (B off n cap k : Nat) (hx : a.eval x = .slice (some ⟨B, off, none⟩) n cap) (hy : a.eval y = .int .i64 k) (hk : k < n) (h : wpList Try.prog ops Q rest (a.put o.dst (.pointer (some ⟨B, off + 131 * k, none⟩))) w) : wpList Try.prog ops Q (o :: rest) a w :=
  wpList_plain hgd fun K hK => by
    unfold Oper.wp
    rw [line_addr x y ho B off n cap k hx hy hk w]
    exact hK _ _ h
theorem wpList_line_elem_w (hw : Region.wanted o (yielded ops a.tmps) = true) (x y : Operand) (ho : o.op = .indexAddr 34 x y) (B off n cap k : Nat) (hx : a.eval x = .slice (some ⟨B, off, none⟩) n cap) (hy : a.eval y = .int .i64 k) (hk : k < n) (h : wpList Try.prog ops Q rest (a.put o.dst (.pointer (some ⟨B, off + 131 * k, none⟩))) w) : wpList Try.prog ops Q (o :: rest) a w :=
  wanted_step hw fun K hK => by
    unfold Oper.wp
    rw [line_addr x y ho B off n cap k hx hy hk w]
    exact hK _ _ h
theorem gives_line_elem (x y : Operand) (ho : o.op = .indexAddr 34 x y) (B off n cap k : Nat) (hx : a.eval x = .slice (some ⟨B, off, none⟩) n cap) (hy : a.eval y = .int .i64 k) (hk' : k < n) (hk : K (a.put o.dst (.pointer (some ⟨B, off + 131 * k, none⟩)))) : ∃ v, Gives Try.prog C o a v ∧ K (a.put o.dst v) :=
  ⟨_, fun w _ => line_addr x y ho B off n cap k hx hy hk' w, hk⟩
theorem gives_line_neq (x y : Operand) (ho : o.op = .binOp .neq 42 x y 42) (c d : LineOf) (hx : a.eval x = lineV c) (hy : a.eval y = lineV d) (v : Bool) (hv : (!(sameLine c d)) = v) (hk : K (a.put o.dst (.bool v))) : ∃ v, Gives Try.prog C o a v ∧ K (a.put o.dst v) :=
  ⟨_, fun w _ => by
    subst hv
    unfold execOp
    simp only [ho, hx, hy]
    unfold lineV
    have e := run_neq_struct (P := Try.prog) w 42 (lineC c).toArray (lineC d).toArray
    rw [line_eq] at e
    have g := run_eqGuard_agg (P := Try.prog) w .neq 42 x y (lineC c).toArray (lineC d).toArray (by kernel_rfl)
    simp only [Sem.run_bind, g, e, Result.andThen_ok, Sem.run_pure], hk⟩
theorem gives_line_eql (x y : Operand) (ho : o.op = .binOp .eql 42 x y 42) (c d : LineOf) (hx : a.eval x = lineV c) (hy : a.eval y = lineV d) (v : Bool) (hv : sameLine c d = v) (hk : K (a.put o.dst (.bool v))) : ∃ v, Gives Try.prog C o a v ∧ K (a.put o.dst v) :=
  ⟨_, fun w _ => by
    subst hv
    unfold execOp
    simp only [ho, hx, hy]
    unfold lineV
    have e := run_eql_struct (P := Try.prog) w 42 (lineC c).toArray (lineC d).toArray
    rw [line_eq] at e
    have g := run_eqGuard_agg (P := Try.prog) w .eql 42 x y (lineC c).toArray (lineC d).toArray (by kernel_rfl)
    simp only [Sem.run_bind, g, e, Result.andThen_ok, Sem.run_pure], hk⟩
theorem wpList_line_alloc (hw : Region.wanted o (yielded ops a.tmps) = true) (ho : o.op = .alloc 42) (S : Nat) (hS : w.heap.size = S) (h : wpList Try.prog ops Q rest (a.put o.dst (.pointer (some ⟨S, 0, none⟩))) (w.alloc (.cells (lineC noLine).toArray 42))) : wpList Try.prog ops Q (o :: rest) a w :=
  wanted_step hw fun K hK => by
    subst hS
    have e := lineZero_run w
    unfold Oper.wp execOp
    simp only [ho]
    simp [go_sem, e, lineZ]
    exact hK _ _ h
theorem run_line0 (w : World) : (Instr.build 42 #[]).run Try.prog w = .ok (lineV noLine) w := run_build w 42 _ _ (by kernel_rfl)
theorem wpList_line_build0 (hw : Region.wanted o (yielded ops a.tmps) = true) (ho : o.op = .build 42 #[]) (h : wpList Try.prog ops Q rest (a.put o.dst (lineV noLine)) w) : wpList Try.prog ops Q (o :: rest) a w :=
  wanted_step hw fun K hK => by
    have e := run_line0 w
    unfold Oper.wp execOp
    simp only [ho]
    simp [e]
    exact hK _ _ h
end
/-- A line in a box of its own. -/
def LineBox (W : World) (O : Nat) (c : LineOf) : Prop := W.heap[O]? = some (.cells (lineC c).toArray 42 (0, 0))
theorem LineBox.range {W : World} {O : Nat} {c : LineOf} (h : LineBox W O c) : W.rangeAt O 0 (lineC c) := fun j v hv => by
  rw [Nat.zero_add, cell_of_row _ _ _ _ _ _ h]; simpa using hv
theorem LineBox.cell {W : World} {O : Nat} {c : LineOf} (h : LineBox W O c) (k : Nat) : W.cell? ⟨O, k, none⟩ = (lineC c)[k]? := (cell_of_row _ _ _ _ _ _ h).trans (by simp)
theorem LineBox.lt {W : World} {O : Nat} {c : LineOf} (h : LineBox W O c) : O < W.heap.size := (Array.getElem?_eq_some_iff.1 h).1
theorem LineBox.free {W : World} {O : Nat} {c : LineOf} (h : LineBox W O c) (i : Nat) : W.frozen? ⟨O, i, none⟩ = false := frozen_of_row _ _ _ _ _ h
theorem LineBox.alloc (W : World) (c : LineOf) : LineBox (W.alloc (.cells (lineC c).toArray 42)) W.heap.size c := heap_alloc_new W _
theorem LineBox.set {W : World} {O : Nat} {c : LineOf} (h : LineBox W O c) (d : LineOf) : LineBox (W.setRow O (lineC d).toArray) O d := setRow_heap _ _ _ _ _ (0, 0) h
theorem LineBox.keep {W W' : World} {O : Nat} {c : LineOf} (h : LineBox W O c) (hb : W'.heap[O]? = W.heap[O]?) : LineBox W' O c := hb.trans h
theorem LineBox.below {W W' : World} {O M : Nat} {c : LineOf} (h : LineBox W O c) (hb : Below M W W') (hO : O < M) : LineBox W' O c := (hb.block O hO).trans h
theorem line_rows {W : World} {q : Option Addr} {l : List LineOf} (h : RowsAt 131 lineC W q l) {k : Nat} (hk : k < l.length) : ∃ B o, q = some ⟨B, o, none⟩ ∧ B < W.heap.size ∧ W.rangeAt B (o + 131 * k) (lineC (lineAt l k)) := by
  rcases h with rfl | ⟨B, o, h1, h2, h3⟩
  · simp at hk
  · exact ⟨B, o, h1, h2, h3 k _ (lineAt_get hk)⟩
theorem fill_line1 (c : LineOf) : Instr.fill (fun i => some (i * 131, 131)) ((Array.range (1 * 131)).map (lineZ.cells[· % lineZ.cells.size]!)) [(0, lineV c)] = some (lineC c).toArray := by kernel_rfl
theorem run_line1 (c : LineOf) (w : World) : (Instr.buildSlice 34 1 #[(0, lineV c)]).run Try.prog w = .ok (.slice (some ⟨w.heap.size, 0, none⟩) 1 1) (w.alloc (.cells (lineC c).toArray 42)) := by
  have hi := lineSize
  have hz := lineZero
  cases hq : Try.prog.info? 42 with
  | none => rw [hq] at hi; simp at hi
  | some i =>
    rw [hq] at hi hz
    have hs : i.size = 131 := by simpa using hi
    have hzz : i.zero = some lineZ := by simpa using hz
    refine run_buildSlice w 34 42 1 _ _ i _ Try.underlying34 hq hzz (by rw [hs]; omega) (by rw [hs]; omega) ?_
    rw [hs]; exact fill_line1 c
section
variable {ops : Array Oper} {rest : List Oper} {o : Oper} {a : Act} {w : World} {Q : Exit → Act → World → Prop} {C : World → Prop} {K : Act → Prop}
theorem wpList_line1 (hgd : o.guard = none) (x : Operand) (ho : o.op = .buildSlice 34 1 #[(0, x)]) (c : LineOf) (hx : a.eval x = lineV c)
    (h : wpList Try.prog ops Q rest (a.put o.dst (.slice (some ⟨w.heap.size, 0, none⟩) 1 1)) (w.alloc (.cells (lineC c).toArray 42))) : wpList Try.prog ops Q (o :: rest) a w :=
  wpList_plain hgd fun _ hK => by
    have e := run_line1 c w
    unfold Oper.wp execOp
    simp only [ho]
    simp [hx, e]
    exact hK _ _ h
theorem done_line1 {K : Value → World → Prop} (x : Operand) (ho : o.op = .buildSlice 34 1 #[(0, x)]) (c : LineOf) (hx : a.eval x = lineV c)
    (h : K (.slice (some ⟨w.heap.size, 0, none⟩) 1 1) (w.alloc (.cells (lineC c).toArray 42))) : doneAt Try.prog o a w K := by
  have e := run_line1 c w
  unfold doneAt execOp
  simp only [ho]
  simp [hx, e]
  exact h
end
/-- The one line of a new block is a slice's. -/
theorem rows_line1 (w : World) (c : LineOf) : RowsAt 131 lineC (w.alloc (.cells (lineC c).toArray 42)) (some ⟨w.heap.size, 0, none⟩) [c] :=
  .inr ⟨w.heap.size, 0, rfl, by simp, fun i d hd j v hv => by
    rcases i with _ | i
    · obtain rfl : c = d := by simpa using hd
      rw [cell_of_row _ _ _ _ _ _ (heap_alloc_new w (.cells (lineC c).toArray 42))]
      simpa using hv
    · simp at hd⟩
end Go.Proofs.Ytlaclakndleonaa

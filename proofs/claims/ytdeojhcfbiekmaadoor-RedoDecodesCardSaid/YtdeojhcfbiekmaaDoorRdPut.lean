/- Puts by value and in slices: loaded, boxed, built, held against one another. Conditions: as each says. -/
import Derived.Test.YtdeojhcfbiekmaaDoorRdVal
import Derived.Test.YtdeojhcfbiekmaaDoorRdNum
namespace Go.Proofs.YtdeojhcfbiekmaaDoor
open Go.ChangeShapes Go.WideShapes Go.ChangeAt Go.RowKit
set_option linter.unusedVariables false

def secC (s : List Int) : List Value := (cellsOf .u8 (mk 128 (natF s))).toList
def putC (c : PutOf) : List Value := .int .i64 c.at' :: secC c.s
theorem secC_len (s : List Int) : (secC s).length = 128 := by unfold secC; rw [Array.length_toList, cellsOf_size, mk_len]
theorem putC_len (c : PutOf) : (putC c).length = 129 := by unfold putC; rw [List.length_cons, secC_len]
theorem secC_one (s : List Int) : ∀ u ∈ secC s, u.oneCell' = true := fun u hu => (Array.all_eq_true_iff_forall_mem.1 (cellsOf_one .u8 (mk 128 (natF s)))) u (by simpa [secC] using hu)
theorem putC_one (c : PutOf) : ∀ u ∈ putC c, u.oneCell' = true := fun u hu => by
  rcases List.mem_cons.1 hu with rfl | h
  · rfl
  · exact secC_one c.s u h
theorem secC_get (s : List Int) {j : Nat} (h : j < 128) : (secC s)[j]? = some (.int .u8 (natF s j : Nat)) := by
  unfold secC
  rw [Array.getElem?_toList, cellsOf_get .u8 _ (by rw [mk_len]; exact h), mk_get h]
theorem secC_arr (s : List Int) : (secC s).toArray = cellsOf .u8 (mk 128 (natF s)) := by unfold secC; simp
def putZ : Value := .agg (putC ⟨0, []⟩).toArray
theorem putSize : (Tryd.prog.info? 57).map (·.size) = some 129 := by kernel_rfl
theorem putZero : (Tryd.prog.info? 57).bind (·.zero) = some putZ := by kernel_rfl
theorem elemPut : ElemOf Tryd.prog 32 57 129 136 putC where
  under := Tryd.underlying32
  size := putSize
  bytes := by kernel_rfl
  zero := ⟨putZ, putZero, by kernel_rfl⟩
  len := putC_len
  one := putC_one
  pos := by decide
theorem putZero_run (W : World) : (zeroValue 57).run Tryd.prog W = .ok putZ W := by
  have h := putZero
  cases hq : Tryd.prog.info? 57 with
  | none => rw [hq] at h; simp at h
  | some i =>
    rw [hq] at h
    simp only [Option.bind_some] at h
    simp [zeroValue, typeInfo, hq, h]
theorem put_part0 (c : PutOf) (w : World) : (part 3 (putC c).toArray 0).run Tryd.prog w = .ok (.int .i64 c.at') w := by
  have h : (isAgg 3).run Tryd.prog w = .ok false w := by simp [go_sem]
  unfold part
  simp [h, putC]
theorem put_part1 (c : PutOf) (w : World) : (part 31 (putC c).toArray 1).run Tryd.prog w = .ok (.agg (cellsOf .u8 (mk 128 (natF c.s)))) w := by
  have h : (isAgg 31).run Tryd.prog w = .ok true w := by simp [go_sem]
  have hs : (sizeOf 31).run Tryd.prog w = .ok 128 w := by
    have hi : (Tryd.prog.info? 31).map (·.size) = some 128 := by kernel_rfl
    cases hq : Tryd.prog.info? 31 with
    | none => simp [hq] at hi
    | some i =>
      have hs : i.size = 128 := by simpa [hq] using hi
      simp [sizeOf, typeInfo, hq, hs]
  have e : (putC c).toArray.extract 1 (1 + 128) = cellsOf .u8 (mk 128 (natF c.s)) := by
    apply Array.ext'
    rw [Array.toList_extract]
    show ((secC c.s)).take 128 = _
    rw [List.take_of_length_le (Nat.le_of_eq (secC_len _))]; rfl
  unfold part
  simp only [Sem.run_bind, h, hs, Result.andThen_ok, if_true, Sem.run_pure, e]
theorem put_eq (c d : PutOf) (w : World) : (Op.equalIn 10000 57 (.agg (putC c).toArray) (.agg (putC d).toArray)).run Tryd.prog w = .ok (c.at' == d.at' && mk 128 (natF c.s) == mk 128 (natF d.s)) w := by
  have hS : Tryd.prog.underlying 57 = some (.struct (Tryd.prog.fieldsOf 57)) := by kernel_rfl
  have q1 : (Op.equalIn 9999 3 (.int .i64 c.at') (.int .i64 d.at')).run Tryd.prog w = .ok (c.at' == d.at') w := run_equalIn_int w 9998 3 .i64 .i64 _ _ Tryd.underlying3
  have q2 : (Op.equalIn 9999 31 (.agg (cellsOf .u8 (mk 128 (natF c.s)))) (.agg (cellsOf .u8 (mk 128 (natF d.s))))).run Tryd.prog w = .ok (mk 128 (natF c.s) == mk 128 (natF d.s)) w :=
    run_equalIn_ints w 9997 (mk 128 _) (mk 128 _) (by rw [mk_len]; exact secUnder) byteElem (by rw [mk_len, mk_len])
  rw [show (10000 : Nat) = 9999 + 1 from rfl, run_equalIn_agg w 9999 57 _ _ hS (by kernel_rfl)]
  simp only [Program.fieldsOf, Tryd.underlying57]
  simp only [Op.eqFields]
  generalize hb : (mk 128 (natF c.s) == mk 128 (natF d.s)) = b at *
  generalize ha : (c.at' == d.at') = a at *
  rw [if_pos (by decide), if_pos (by decide)]
  simp only [Sem.run_bind, put_part0, q1, Result.andThen_ok]
  cases a <;> cases b <;> simp [put_part1, q2]
/-- Are two puts the same? -/
def samePut (c d : PutOf) : Bool := c.at' == d.at' && mk 128 (natF c.s) == mk 128 (natF d.s)
theorem samePut_iff {c d : PutOf} (hc : c.ok) (hd : d.ok) : samePut c d = true ↔ c = d := by
  unfold samePut
  rw [hc.mk', hd.mk', Bool.and_eq_true, beq_iff_eq, beq_iff_eq]
  exact ⟨fun h => PutOf.ext h.1 h.2, fun h => by subst h; exact ⟨rfl, rfl⟩⟩
section
variable {ops : Array Oper} {rest : List Oper} {o : Oper} {a : Act} {w : World} {Q : Exit → Act → World → Prop} {C : World → Prop} {K : Act → Prop}
def putV (c : PutOf) : Value := .agg (putC c).toArray
theorem putC_size (c : PutOf) : (Tryd.prog.info? 57).map (·.size) = some (putC c).length := by rw [putC_len]; exact putSize
theorem putA_size (c : PutOf) : (Tryd.prog.info? 57).map (·.size) = some (putC c).toArray.size := by rw [List.size_toArray]; exact putC_size c
theorem putA_one (c : PutOf) : (putC c).toArray.all (·.oneCell') = true := Array.all_eq_true_iff_forall_mem.2 fun u hu => putC_one c u (by simpa using hu)
theorem wpList_put_load (hgd : o.guard = none) (x : Operand) (ho : o.op = .load 57 x) (B off : Nat) (hx : a.eval x = .pointer (some ⟨B, off, none⟩)) (c : PutOf) (hc : w.rangeAt B off (putC c)) (h : wpList Tryd.prog ops Q rest (a.put o.dst (putV c)) w) : wpList Tryd.prog ops Q (o :: rest) a w :=
  wpList_load_mid hgd _ x ho B off hx (putC c) _ hc Tryd.underlying57 rfl (putC_size c) h
theorem gives_put_load (x : Operand) (ho : o.op = .load 57 x) (B off : Nat) (hx : a.eval x = .pointer (some ⟨B, off, none⟩)) (c : PutOf) (hc : ∀ w, C w → w.rangeAt B off (putC c)) (hk : K (a.put o.dst (putV c))) : ∃ v, Gives Tryd.prog C o a v ∧ K (a.put o.dst v) :=
  ⟨_, fun w hw => by
    unfold execOp
    simp only [ho, hx, Instr.loadAt, Instr.sureAddr, Sem.run_bind, Sem.run_pure, Result.andThen_ok, run_loadVar_mid w B off 57 (putC c) _ (hc w hw) Tryd.underlying57 rfl (putC_size c)]
    rfl, hk⟩
theorem elem_addr (x y : Operand) (ho : o.op = .indexAddr 32 x y) (B off n cap k : Nat) (hx : a.eval x = .slice (some ⟨B, off, none⟩) n cap) (hy : a.eval y = .int .i64 k) (hk : k < n) (w : World) : (execOp a.eval o).run Tryd.prog w = .ok (.value (.pointer (some ⟨B, off + 129 * k, none⟩))) w := by
  have h0 : (k : Int) < n := by omega
  have hi := putSize
  cases hq : Tryd.prog.info? 57 with
  | none => simp [hq] at hi
  | some i =>
    have hs : i.size = 129 := by simpa [hq] using hi
    unfold execOp
    simp only [ho, hx, hy]
    simp [go_sem, Tryd.underlying32, h0, sizeOf, typeInfo, hq, hs, addr_add, Nat.mul_comm]
theorem wpList_put_elem (hgd : o.guard = none) (x y : Operand) (ho : o.op = .indexAddr 32 x y) (B off n cap k : Nat) (hx : a.eval x = .slice (some ⟨B, off, none⟩) n cap) (hy : a.eval y = .int .i64 k) (hk : k < n) (h : wpList Tryd.prog ops Q rest (a.put o.dst (.pointer (some ⟨B, off + 129 * k, none⟩))) w) : wpList Tryd.prog ops Q (o :: rest) a w :=
  wpList_plain hgd fun K hK => by
    unfold Oper.wp
    rw [elem_addr x y ho B off n cap k hx hy hk w]
    exact hK _ _ h
theorem gives_put_elem (x y : Operand) (ho : o.op = .indexAddr 32 x y) (B off n cap k : Nat) (hx : a.eval x = .slice (some ⟨B, off, none⟩) n cap) (hy : a.eval y = .int .i64 k) (hk' : k < n) (hk : K (a.put o.dst (.pointer (some ⟨B, off + 129 * k, none⟩)))) : ∃ v, Gives Tryd.prog C o a v ∧ K (a.put o.dst v) :=
  ⟨_, fun w _ => elem_addr x y ho B off n cap k hx hy hk' w, hk⟩
theorem gives_put_neq (x y : Operand) (ho : o.op = .binOp .neq 57 x y 57) (c d : PutOf) (hx : a.eval x = putV c) (hy : a.eval y = putV d) (v : Bool) (hv : (!(samePut c d)) = v) (hk : K (a.put o.dst (.bool v))) : ∃ v, Gives Tryd.prog C o a v ∧ K (a.put o.dst v) :=
  ⟨_, fun w _ => by
    subst hv
    unfold execOp
    simp only [ho, hx, hy]
    unfold putV
    have e := run_neq_struct (P := Tryd.prog) w 57 (putC c).toArray (putC d).toArray
    rw [put_eq] at e
    have g := run_eqGuard_agg (P := Tryd.prog) w .neq 57 x y (putC c).toArray (putC d).toArray (by kernel_rfl)
    simp only [Sem.run_bind, g, e, Result.andThen_ok, Sem.run_pure]
    rfl, hk⟩
theorem wpList_put_alloc (hw : Region.wanted o (yielded ops a.tmps) = true) (ho : o.op = .alloc 57) (h : wpList Tryd.prog ops Q rest (a.put o.dst (.pointer (some ⟨w.heap.size, 0, none⟩))) (w.alloc (.cells (putC ⟨0, []⟩).toArray 57))) : wpList Tryd.prog ops Q (o :: rest) a w :=
  wanted_step hw fun K hK => by
    have e := putZero_run w
    unfold Oper.wp execOp
    simp only [ho]
    simp [go_sem, e, putZ]
    exact hK _ _ h
end
/-- A put in a box of its own. -/
def PutBox (W : World) (O : Nat) (c : PutOf) : Prop := W.heap[O]? = some (.cells (putC c).toArray 57 (0, 0))
theorem PutBox.new (W : World) (c : PutOf) : PutBox ((W.alloc (.cells (putC ⟨0, []⟩).toArray 57)).setRow W.heap.size (putC c).toArray) W.heap.size c :=
  setRow_heap _ _ _ _ _ (0, 0) (heap_alloc_new W (.cells (putC ⟨0, []⟩).toArray 57))
theorem PutBox.cell {W : World} {O : Nat} {c : PutOf} (h : PutBox W O c) (k : Nat) : W.cell? ⟨O, k, none⟩ = (putC c)[k]? := (cell_of_row _ _ _ _ _ _ h).trans (by simp)
theorem PutBox.lt {W : World} {O : Nat} {c : PutOf} (h : PutBox W O c) : O < W.heap.size := (Array.getElem?_eq_some_iff.1 h).1
theorem put_box_below (W : World) (c : PutOf) : Below W.heap.size W ((W.alloc (.cells (putC ⟨0, []⟩).toArray 57)).setRow W.heap.size (putC c).toArray) :=
  below_setRow ((Below.refl _ W).alloc (Nat.le_refl _) _) (Nat.le_refl _) _
theorem rowsAt_elem {W : World} {q : Option Addr} {l : List PutOf} (h : RowsAt 129 putC W q l) {k : Nat} (hk : k < l.length) : ∃ B o, q = some ⟨B, o, none⟩ ∧ B < W.heap.size ∧ W.rangeAt B (o + 129 * k) (putC l[k]) := by
  rcases h with rfl | ⟨B, o, h1, h2, h3⟩
  · simp at hk
  · exact ⟨B, o, h1, h2, h3 k _ (List.getElem?_eq_getElem hk)⟩
theorem fill_put1 (c : PutOf) : Instr.fill (fun i => some (i * 129, 129)) ((Array.range (1 * 129)).map (putZ.cells[· % putZ.cells.size]!)) [(0, putV c)] = some (putC c).toArray := by kernel_rfl
theorem run_put1 (c : PutOf) (w : World) : (Instr.buildSlice 32 1 #[(0, putV c)]).run Tryd.prog w = .ok (.slice (some ⟨w.heap.size, 0, none⟩) 1 1) (w.alloc (.cells (putC c).toArray 57)) := by
  have hi := putSize
  have hz := putZero
  cases hq : Tryd.prog.info? 57 with
  | none => rw [hq] at hi; simp at hi
  | some i =>
    rw [hq] at hi hz
    have hs : i.size = 129 := by simpa using hi
    have hzz : i.zero = some putZ := by simpa using hz
    refine run_buildSlice w 32 57 1 _ _ i _ Tryd.underlying32 hq hzz (by rw [hs]; omega) (by rw [hs]; omega) ?_
    rw [hs]; exact fill_put1 c
theorem run_build2 (z : Int) (f : Nat → Nat) (s : List Int) (hs : mk 128 f = mk 128 (natF s)) (w : World) : (Instr.build 57 #[(0, .int .i64 z), (1, .agg (cellsOf .u8 (mk 128 f)))]).run Tryd.prog w = .ok (putV ⟨z, s⟩) w := by
  rw [hs]
  exact run_build w 57 _ _ (by kernel_rfl)
section
variable {ops : Array Oper} {rest : List Oper} {o : Oper} {a : Act} {w : World} {Q : Exit → Act → World → Prop} {C : World → Prop} {K : Act → Prop}
theorem wpList_put1 (hgd : o.guard = none) (x : Operand) (ho : o.op = .buildSlice 32 1 #[(0, x)]) (c : PutOf) (hx : a.eval x = putV c)
    (h : wpList Tryd.prog ops Q rest (a.put o.dst (.slice (some ⟨w.heap.size, 0, none⟩) 1 1)) (w.alloc (.cells (putC c).toArray 57))) : wpList Tryd.prog ops Q (o :: rest) a w :=
  wpList_plain hgd fun _ hK => by
    have e := run_put1 c w
    unfold Oper.wp execOp
    simp only [ho]
    simp [hx, e]
    exact hK _ _ h
theorem done_put1 {K : Value → World → Prop} (x : Operand) (ho : o.op = .buildSlice 32 1 #[(0, x)]) (c : PutOf) (hx : a.eval x = putV c)
    (h : K (.slice (some ⟨w.heap.size, 0, none⟩) 1 1) (w.alloc (.cells (putC c).toArray 57))) : doneAt Tryd.prog o a w K := by
  have e := run_put1 c w
  unfold doneAt execOp
  simp only [ho]
  simp [hx, e]
  exact h
theorem gives_build2 (x y : Operand) (ho : o.op = .build 57 #[(0, x), (1, y)]) (z : Int) (f : Nat → Nat) (s : List Int) (hs : mk 128 f = mk 128 (natF s)) (hx : a.eval x = .int .i64 z) (hy : a.eval y = .agg (cellsOf .u8 (mk 128 f))) (hk : K (a.put o.dst (putV ⟨z, s⟩))) : ∃ v, Gives Tryd.prog C o a v ∧ K (a.put o.dst v) :=
  ⟨_, fun w _ => by
    have e := run_build2 z f s hs w
    unfold execOp
    simp only [ho]
    simp [hx, hy, e], hk⟩
end
/-- The one put of a new block is a slice's. -/
theorem rows_one (w : World) (c : PutOf) : RowsAt 129 putC (w.alloc (.cells (putC c).toArray 57)) (some ⟨w.heap.size, 0, none⟩) [c] :=
  .inr ⟨w.heap.size, 0, rfl, by simp, fun i d hd j v hv => by
    rcases i with _ | i
    · obtain rfl : c = d := by simpa using hd
      rw [cell_of_row _ _ _ _ _ _ (heap_alloc_new w (.cells (putC c).toArray 57))]
      simpa using hv
    · simp at hd⟩
end Go.Proofs.YtdeojhcfbiekmaaDoor

/- What chap's answers and draws are, and the operations on bytes that its texts share. No condition. -/
import Derived.Test.YtccpecajbfpjdaaDoorChBox
import Derived.Test.YtccpecajbfpjdaaDoorMacRef
import Derived.Test.YtccpecajbfpjdaaDoorVtRefN
namespace Go.Proofs.YtccpecajbfpjdaaDoor
open Go.ChangeShapes Go.WideShapes Go.ChangeAt Go.RowKit Go.Shelf
set_option linter.unusedVariables false
set_option linter.unusedSimpArgs false
/-- The text of an answer, and the answer. -/
def ansT (z : Int) (n1 : Nat) (g1 g2 : Nat → Nat) : Nat → Nat := fun j => if j = 0 then (IntKind.u8.wrap z).toNat else if j < 1 + n1 then g1 (j - 1) else g2 (j - 1 - n1)
def ansD (z : Int) (n1 : Nat) (g1 : Nat → Nat) (n2 : Nat) (g2 : Nat → Nat) : Nat → Nat := digF (1 + n1 + n2) (ansT z n1 g1 g2)
/-- The text of a draw, and the draw. -/
def drwT (n : Int) : Nat → Nat := fun j => if j < 4 then [100, 114, 97, 119].getD j 0 else numF 8 n (j - 4)
def drwD (seed n : Int) : Nat → Nat := tagF 8 (numF 8 seed) 12 (drwT n)
theorem wrap8 (z : Int) : ((IntKind.u8.wrap z).toNat : Int) = IntKind.u8.wrap z := by
  have : IntKind.u8.wrap z = z % 256 := rfl
  rw [this]; omega
theorem ansT_lt {z : Int} {n1 n2 : Nat} {g1 g2 : Nat → Nat} (h1 : ∀ j, j < n1 → g1 j < 256) (h2 : ∀ j, j < n2 → g2 j < 256) : ∀ j, j < 1 + n1 + n2 → ansT z n1 g1 g2 j < 256 := fun j hj => by
  unfold ansT
  split
  · have : IntKind.u8.wrap z = z % 256 := rfl
    rw [this]; omega
  · split
    · exact h1 _ (by omega)
    · exact h2 _ (by omega)
theorem drwT_lt (n : Int) : ∀ j, drwT n j < 256 := fun j => by
  unfold drwT
  split
  · rcases (show j = 0 ∨ j = 1 ∨ j = 2 ∨ j = 3 by omega) with rfl | rfl | rfl | rfl <;> decide
  · exact numF_lt _ _ _
theorem ansD_lt (z : Int) (n1 : Nat) (g1 : Nat → Nat) (n2 : Nat) (g2 : Nat → Nat) (j : Nat) : ansD z n1 g1 n2 g2 j < 256 := digF_lt _ _ _
theorem drwD_lt (seed n : Int) (j : Nat) : drwD seed n j < 256 := tagF_lt _ _ _ _ _
theorem rowSum : IsRow 25 32 (cellsOf .u8 (mk 32 zeroK)) where
  under := ⟨_, sumUnder, rfl⟩
  size := by kernel_rfl
  zero := by kernel_rfl
  zsize := by rw [cellsOf_size, mk_len]
theorem s32_size (f : Nat → Nat) : (cellsOf .u8 (mk 32 f)).size = 32 := by rw [cellsOf_size, mk_len]
theorem s32_one (f : Nat → Nat) : (cellsOf .u8 (mk 32 f)).all (·.oneCell') = true := by
  rw [Array.all_eq_true]
  intro i hi
  exact bytes_one (mk 32 f) _ (List.getElem_mem (l := (mk 32 f).map (Value.int .u8)) (n := i) (by simpa [cellsOf] using hi))
theorem results_s32 {fn : Func} {p : Tmp} (h : fn.results = #[.cell p 25]) (tmps : Array Value) (w : World) (B : Nat) (f : Nat → Nat) (hp : tmps.getD p undef = .pointer (some ⟨B, 0, none⟩)) (hB : BoxA w B 25 (cellsOf .u8 (mk 32 f))) :
    (results fn tmps).run Tryd.prog w = .ok (.agg (cellsOf .u8 (mk 32 f))) w :=
  results_cell_row h tmps w B 25 (cellsOf .u8 (mk 32 f)) (0, 0) _ hp hB sumUnder rfl (by rw [s32_size]; kernel_rfl)
theorem box_s32 {w : World} {B : Nat} {f : Nat → Nat} (h : BoxA w B 25 (cellsOf .u8 (mk 32 f))) : BytesAt w (some ⟨B, 0, none⟩) 32 f := .inr ⟨B, 0, rfl, h.lt, fun j hj => by
  rw [Nat.zero_add, h.cell j]
  unfold cellsOf mk
  simp [hj]⟩
/-- What stood ahead of a base stands behind what touches only from the base on. -/
theorem LwB.over {w V V1 V2 : World} {L : List (Nat × Obj)} (h : LwB w L V1) (h0 : LwB w L V) (hb : Below V.heap.size V1 V2) : LwB w L V2 :=
  ⟨fun hi => ⟨(hb.block _ (h0.lt hi)).trans (h.box hi).1, (h.box hi).2⟩, h.low.trans (hb.mono h0.low.size), h.dis⟩
section
variable {ops : Array Oper} {rest : List Oper} {o : Oper} {a : Act} {w : World} {Q : Exit → Act → World → Prop}
theorem wpList_bytes1 (hgd : o.guard = none) (u : Operand) (ho : o.op = .buildSlice 22 1 #[(0, u)]) (x : Int) (hx : a.eval u = .int .u8 x)
    (h : wpList Tryd.prog ops Q rest (a.put o.dst (.slice (some ⟨w.heap.size, 0, none⟩) 1 1)) (w.alloc (.cells (cellsOf .u8 [x]) 5))) : wpList Tryd.prog ops Q (o :: rest) a w :=
  wpList_plain hgd fun K hK => by
    have e : (Instr.buildSlice 22 1 #[(0, .int .u8 x)]).run Tryd.prog w = .ok (.slice (some ⟨w.heap.size, 0, none⟩) 1 1) (w.alloc (.cells (cellsOf .u8 [x]) 5)) := by simp [go_sem, cellsOf]
    unfold Oper.wp execOp
    simp only [ho]
    simp [hx, e]
    exact hK _ _ h
def drawL : List Int := [100, 114, 97, 119]
theorem wpList_draw (hgd : o.guard = none) (ho : o.op = .buildSlice 22 4 #[(0, .const (.int .u8 100)), (1, .const (.int .u8 114)), (2, .const (.int .u8 97)), (3, .const (.int .u8 119))])
    (h : wpList Tryd.prog ops Q rest (a.put o.dst (.slice (some ⟨w.heap.size, 0, none⟩) 4 4)) (w.alloc (.cells (cellsOf .u8 drawL) 5))) : wpList Tryd.prog ops Q (o :: rest) a w :=
  wpList_plain hgd fun K hK => by
    have e : (Instr.buildSlice 22 4 #[(0, .int .u8 100), (1, .int .u8 114), (2, .int .u8 97), (3, .int .u8 119)]).run Tryd.prog w = .ok (.slice (some ⟨w.heap.size, 0, none⟩) 4 4) (w.alloc (.cells (cellsOf .u8 drawL) 5)) := by simp [go_sem, cellsOf, drawL]
    unfold Oper.wp execOp
    simp only [ho]
    simp [Act.eval, e]
    exact hK _ _ h
end
theorem freeze_heap_other (w : World) (a : Addr) (n k : Nat) (h : k ≠ a.block) : (w.freeze a n).heap[k]? = w.heap[k]? := by
  unfold World.freeze
  split
  · rfl
  · simp only [Array.getElem?_modify, if_neg (Ne.symm h)]
theorem freeze_heap_same {w : World} {D : Nat} {cs : Array Value} {t : TypeId} {fr : Nat × Nat} (h : w.heap[D]? = some (.cells cs t fr)) (o n : Nat) : ∃ fr', (w.freeze ⟨D, o, none⟩ n).heap[D]? = some (.cells cs t fr') := by
  unfold World.freeze
  split
  · exact ⟨fr, h⟩
  · simp only [Array.getElem?_modify, if_true, h]
    exact ⟨_, rfl⟩
theorem freeze_size (w : World) (a : Addr) (n : Nat) : (w.freeze a n).heap.size = w.heap.size := by
  unfold World.freeze
  split
  · rfl
  · simp
theorem freeze_below (w : World) (D o n M : Nat) (h : M ≤ D) : Below M w (w.freeze ⟨D, o, none⟩ n) := by
  refine ⟨?_, ?_, ?_, by rw [freeze_size]; exact Nat.le_refl _, fun k hk => freeze_heap_other w _ n k (by show k ≠ D; omega)⟩ <;> (unfold World.freeze; split <;> rfl)
theorem run_conv_lit {w : World} {D n c : Nat} {cs : Array Value} {t : TypeId} {fr : Nat × Nat} (h : w.heap[D]? = some (.cells cs t fr)) : (convert 22 22 (.slice (some ⟨D, 0, none⟩) n c)).run Tryd.prog w = .ok (.slice (some ⟨D, 0, none⟩) n c) (w.freeze ⟨D, cs.size, none⟩ 1) := by
  have hsh : w.shape? D = some (t, cs.size) := by unfold World.shape?; rw [h]
  simp [convert, run_underlying bytesUnder, run_underlying byteUnder1, markStringish, hsh]
theorem append_at {w : World} (ty : TypeId) {D s : Nat} {F T : Nat → Nat} (h : Cells w D 0 s F) (p : Option Addr) (n cap : Nat) (g : Nat → Nat) (hp : BytesAt w p n g) (h0 : 0 < n) (hk : s + n ≤ 140737488355328) (t1 : ∀ j, j < s → F j = T j) (t2 : ∀ j, j < n → g j = T (s + j)) :
    ∃ C w', (Builtin.append_ #[22, 22] ty #[.slice (some ⟨D, 0, none⟩) s s, .slice p n cap]).run Tryd.prog w = .ok (.slice (some ⟨w.heap.size, 0, none⟩) (s + n) C) w' ∧ BytesAt w' (some ⟨w.heap.size, 0, none⟩) (s + n) T ∧ Below w.heap.size w w' := by
  have hi := byteInfo
  have hz := byteZero1
  have hb := byteBytes1
  cases hq : Tryd.prog.info? 5 with
  | none => rw [hq] at hi; simp at hi
  | some i =>
    rw [hq] at hi hb hz
    have hsz : i.size = 1 := by simpa using hi
    have hzz : i.zero = some (.int .u8 0) := by simpa using hz
    have hby : i.bytes = 1 := by simpa using hb
    rcases hp with hp | ⟨B, off, rfl, hB, hc⟩
    · omega
    · have e := run_append_grow (P := Tryd.prog) w 22 ty 5 i (.int .u8 0) bytesUnder hq hzz ⟨D, 0, none⟩ s s (bytesList s F) (by rw [bytesList_len, hsz, Nat.mul_one]) (fun j u hj => by
          obtain ⟨hj1, rfl⟩ := bytesList_get hj
          rw [addr_add]
          exact h j hj1) ⟨B, off, none⟩ n cap (bytesList n g) (by rw [bytesList_len, hsz, Nat.mul_one]) (fun j u hj => by
          obtain ⟨hj1, rfl⟩ := bytesList_get hj
          rw [addr_add]; exact hc j hj1) (by omega) (by omega) (growslice_fits (by omega) (by rw [hby]; omega))
      refine ⟨_, _, e, .inr ⟨w.heap.size, 0, rfl, by rw [World.size_alloc]; exact Nat.lt_succ_self _, fun j hj => ?_⟩, (Below.refl _ w).drew.alloc (Nat.le_refl _) _⟩
      have hh := heap_alloc_new w.drew (.cells ((bytesList s F).toArray ++ (bytesList n g).toArray ++ Builtin.zeroCells (Value.int .u8 0).cells (grownCap w (s + n) s 5 - (s + n))) 5)
      rw [Nat.zero_add, cell_of_row _ w.heap.size j _ _ (0, 0) hh]
      by_cases hs : j < s
      · rw [← t1 j hs, Array.getElem?_append_left (by simp [bytesList_len]; omega), Array.getElem?_append_left (by simp [bytesList_len]; omega), List.getElem?_toArray]
        exact bytesList_at hs
      · have e2 : T j = g (j - s) := by rw [t2 _ (by omega)]; congr 1; omega
        rw [e2, Array.getElem?_append_left (by simp [bytesList_len]; omega), Array.getElem?_append_right (by simp [bytesList_len]; omega), List.getElem?_toArray]
        simp only [List.size_toArray, bytesList_len]
        exact bytesList_at (by omega)
section
variable {ops : Array Oper} {rest : List Oper} {o : Oper} {a : Act} {w : World} {Q : Exit → Act → World → Prop}
theorem wpList_lit1 (hw : Region.wanted o (yielded ops a.tmps) = true) (x : Operand) (ho : o.op = .convert 22 22 x) (D n c : Nat) {cs : Array Value} {t : TypeId} {fr : Nat × Nat} (hx : a.eval x = .slice (some ⟨D, 0, none⟩) n c)
    (h : w.heap[D]? = some (.cells cs t fr)) (hk : wpList Tryd.prog ops Q rest (a.put o.dst (.slice (some ⟨D, 0, none⟩) n c)) (w.freeze ⟨D, cs.size, none⟩ 1)) : wpList Tryd.prog ops Q (o :: rest) a w :=
  wanted_step hw fun K hK => by
    have e := run_conv_lit (n := n) (c := c) h
    unfold Oper.wp execOp
    simp only [ho, hx, Sem.run_bind, e]
    exact hK _ _ hk
theorem wpList_append_at (hgd : o.guard = none) (s x : Operand) (ho : o.op = .call { callee := .builtin .append, args := #[s, x], argTypes := #[22, 22] }) (D k : Nat) (F T g : Nat → Nat) (p : Option Addr) (n cap : Nat) (hs : a.eval s = .slice (some ⟨D, 0, none⟩) k k) (hx : a.eval x = .slice p n cap)
    (h : Cells w D 0 k F) (hp : BytesAt w p n g) (h0 : 0 < n) (hk : k + n ≤ 140737488355328) (t1 : ∀ j, j < k → F j = T j) (t2 : ∀ j, j < n → g j = T (k + j))
    (hh : ∀ C w', BytesAt w' (some ⟨w.heap.size, 0, none⟩) (k + n) T → Below w.heap.size w w' → wpList Tryd.prog ops Q rest (a.put o.dst (.slice (some ⟨w.heap.size, 0, none⟩) (k + n) C)) w') : wpList Tryd.prog ops Q (o :: rest) a w := by
  obtain ⟨C, w', hr, hb, hl⟩ := append_at o.type h p n cap g hp h0 hk t1 t2
  refine wpList_plain hgd fun K hK => ?_
  unfold Oper.wp
  simp [execOp, ho, resolve, invoke, builtin, hs, hx, hr, Result.andThen]
  exact hK _ _ (hh C w' hb hl)
end
theorem draw_lit (w : World) (n : Int) : Cells ((w.alloc (.cells (cellsOf .u8 drawL) 5)).freeze ⟨w.heap.size, 4, none⟩ 1) w.heap.size 0 4 (drwT n) ∧ Below w.heap.size w ((w.alloc (.cells (cellsOf .u8 drawL) 5)).freeze ⟨w.heap.size, 4, none⟩ 1) := by
  have h0 := heap_alloc_new w (.cells (cellsOf .u8 drawL) 5)
  obtain ⟨fr, h1⟩ := freeze_heap_same h0 4 1
  refine ⟨fun j hj => ?_, ?_⟩
  · rw [Nat.zero_add, cell_of_row _ _ j _ _ fr h1]
    rcases (show j = 0 ∨ j = 1 ∨ j = 2 ∨ j = 3 by omega) with rfl | rfl | rfl | rfl <;> rfl
  · have hb := (Below.refl w.heap.size w).alloc (Nat.le_refl _) (.cells (cellsOf .u8 drawL) 5)
    exact hb.trans (freeze_below _ w.heap.size 4 1 w.heap.size (Nat.le_refl _))
end Go.Proofs.YtccpecajbfpjdaaDoor

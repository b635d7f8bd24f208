/- Operations in the drawn regions of CachePlays: least of two numbers, a slice's beginning, lists held against one another. Conditions: as each says. -/
import Derived.Test.YtlaclakndleonaaCaPair
namespace Go.Proofs.Ytlaclakndleonaa
open Go.ChangeShapes Go.WideShapes Go.ChangeAt Go.RowKit
set_option linter.unusedVariables false
section
variable {o : Oper} {a : Act} {C : World → Prop} {K : Act → Prop}
theorem gives_min (x y : Operand) (ho : o.op = .call { callee := .builtin .min, args := #[x, y], argTypes := #[3, 3] }) (i j : Nat) (hx : a.eval x = .int .i64 i) (hy : a.eval y = .int .i64 j) (v : Nat) (hv : min i j = v) (hk : K (a.put o.dst (.int .i64 v))) : ∃ v, Gives Try.prog C o a v ∧ K (a.put o.dst v) :=
  ⟨_, fun w _ => by
    subst hv
    unfold execOp
    simp [ho, resolve, invoke, builtin, hx, hy, run_min_int2, Result.andThen]
    split <;> omega, hk⟩
theorem lineElemSize (w : World) : (sizeOf 42).run Try.prog w = .ok 131 w := by
  have hi := lineSize
  cases hq : Try.prog.info? 42 with
  | none => simp [hq] at hi
  | some i =>
    have hs : i.size = 131 := by simpa [hq] using hi
    simp [sizeOf, typeInfo, hq, hs]
theorem run_lines_upto (p : Option Addr) (n cap k : Nat) (hk : k ≤ cap) (w : World) : (Instr.sliceAt 34 (.slice p n cap) none (some (.int .i64 k)) none).run Try.prog w = .ok (.slice p k cap) w := by
  have hs := lineElemSize w
  have e1 : (0 : Int) ≤ k := by omega
  have e2 : (k : Int) ≤ cap := by omega
  simp [go_sem, e1, e2, hs, Program.elem, Try.underlying34]
theorem gives_lines_upto (x y : Operand) (ho : o.op = .slice 34 x none (some y) none) (p : Option Addr) (n cap k : Nat) (hx : a.eval x = .slice p n cap) (hy : a.eval y = .int .i64 k) (hk1 : k ≤ cap)
    (hk : K (a.put o.dst (.slice p k cap))) : ∃ v, Gives Try.prog C o a v ∧ K (a.put o.dst v) :=
  ⟨_, fun w _ => by
    have e := run_lines_upto p n cap k hk1 w
    unfold execOp
    simp only [ho]
    simp [hx, hy, e], hk⟩
end
theorem gives_opfield {o : Oper} {a : Act} {C : World → Prop} {K : Act → Prop} (x : Operand) (k : Nat) (ho : o.op = .fieldAddr 38 x k) (hk5 : k < 5) (O : Nat) (hx : a.eval x = .pointer (some ⟨O, 0, none⟩)) (hk : K (a.put o.dst (.pointer (some ⟨O, k, none⟩)))) : ∃ v, Gives Try.prog C o a v ∧ K (a.put o.dst v) :=
  ⟨_, fun w _ => by
    unfold execOp
    simp only [ho, hx]
    rcases k with _ | _ | _ | _ | _ | k
    all_goals first | (exfalso; omega) | simp [go_sem], hk⟩
theorem OpBox.u {W : World} {O : Nat} {c : OpOf} (h : OpBox W O c) : W.cell? ⟨O, 1, none⟩ = some (.int .i64 c.u) := h.cell 1
theorem rows_take {w : World} {q : Option Addr} {l : List LineOf} (h : RowsAt 131 lineC w q l) (k : Nat) : RowsAt 131 lineC w q (l.take k) := by
  rcases h with rfl | ⟨B, o, h1, h2, h3⟩
  · exact .inl (by simp)
  · refine .inr ⟨B, o, h1, h2, fun i c hc => h3 i c ?_⟩
    have hi : i < k := by
      have := (List.getElem?_eq_some_iff.1 hc).1
      rw [List.length_take] at this; omega
    rwa [List.getElem?_take_of_lt hi] at hc
theorem same_at (q q' : Option Addr) (n n' c c' : Nat) (l m : List LineOf) (h1 : l.length = n) (h2 : m.length = n') (hn : n ≤ 1000000) (hl : ∀ x ∈ l, x.ok) (hm : ∀ x ∈ m, x.ok) (he : l = m) (w : World) (hq : RowsAt 131 lineC w q l) (hq' : RowsAt 131 lineC w q' m) :
    Calls Try.prog 24 #[.slice q n c, .slice q' n' c'] w fun e w' => e = .returned (.bool true) ∧ Below w.heap.size w w' := by
  subst h1; subst h2
  exact (same_any q q' c c' l m hn hl hm w hq hq').mono fun e w' ⟨a, b⟩ => ⟨a.is he, b⟩
theorem Num_put (q : Int) (ls : List LineOf) (l : LineOf) (w : World) : Calls Try.prog 14 #[errN (putN q ls l)] w fun e w' => e = .returned (.int .i64 (putN q ls l)) ∧ w = w' := by
  have h : putN q ls l = 0 ∨ putN q ls l = 7 := by
    unfold putN
    by_cases h1 : findL ls l.u l.b < ls.length
    · rw [if_pos h1]; exact .inl rfl
    · rw [if_neg h1]
      by_cases h2 : q ≤ (ls.length : Int)
      · rw [if_pos h2]
        by_cases h3 : cleanL ls < ls.length
        · rw [if_pos h3]; exact .inl rfl
        · rw [if_neg h3]; exact .inr rfl
      · rw [if_neg h2]; exact .inl rfl
  rcases h with h | h
  · rw [h, errN_zero]; exact Num_nil w
  · rw [h, errN_seven]; exact Num_err 7 rfl w
theorem take_min (L : List LineOf) (m : Nat) : takeD L (m : Int) = L.take (min m L.length) := by
  unfold takeD
  rw [if_neg (by omega), Int.toNat_natCast]
  rcases Nat.le_total m L.length with h | h
  · rw [Nat.min_eq_left h]
  · rw [Nat.min_eq_right h, List.take_of_length_le h, List.take_length]
theorem most_is (m : Int) (hm : okI m) : ∃ y : Nat, y < 10 ∧ wrap64 ((IntKind.u64.wrap m).tmod 10) = (y : Int) := by
  have e : ∃ z : Nat, IntKind.u64.wrap m = (z : Int) := ⟨(IntKind.u64.wrap m).toNat, by
    have : 0 ≤ IntKind.u64.wrap m := by
      simp [IntKind.wrap, IntKind.bits, IntKind.signed]
      exact Int.emod_nonneg _ (by decide)
    omega⟩
  obtain ⟨z, hz⟩ := e
  refine ⟨z % 10, Nat.mod_lt _ (by decide), ?_⟩
  rw [hz, show ((z : Int).tmod 10) = ((z % 10 : Nat) : Int) by rw [Int.tmod_eq_emod_of_nonneg (by omega)]; omega]
  exact IntWalk.wrap64_in _ (by omega)
section
variable {ops : Array Oper} {rest : List Oper} {o : Oper} {a : Act} {w : World} {Q : Exit → Act → World → Prop}
theorem op_addr (x y : Operand) (ho : o.op = .indexAddr 22 x y) (B off n cap k : Nat) (hx : a.eval x = .slice (some ⟨B, off, none⟩) n cap) (hy : a.eval y = .int .i64 k) (hk : k < n) (w : World) : (execOp a.eval o).run Try.prog w = .ok (.value (.pointer (some ⟨B, off + 5 * k, none⟩))) w := by
  have h0 : (k : Int) < n := by omega
  have hi : (Try.prog.info? 38).map (·.size) = some 5 := by kernel_rfl
  cases hq : Try.prog.info? 38 with
  | none => simp [hq] at hi
  | some i =>
    have hs : i.size = 5 := by simpa [hq] using hi
    unfold execOp
    simp only [ho, hx, hy]
    simp [go_sem, Try.underlying22, h0, sizeOf, typeInfo, hq, hs, addr_add, Nat.mul_comm]
theorem wpList_op_elem (hgd : o.guard = none) (x y : Operand) (ho : o.op = .indexAddr 22 x y) (B off n cap k : Nat) (hx : a.eval x = .slice (some ⟨B, off, none⟩) n cap) (hy : a.eval y = .int .i64 k) (hk : k < n) (h : wpList Try.prog ops Q rest (a.put o.dst (.pointer (some ⟨B, off + 5 * k, none⟩))) w) : wpList Try.prog ops Q (o :: rest) a w :=
  wpList_plain hgd fun K hK => by
    unfold Oper.wp
    rw [op_addr x y ho B off n cap k hx hy hk w]
    exact hK _ _ h
theorem opZero_run (W : World) : (zeroValue 38).run Try.prog W = .ok (.agg opZ.cells.toArray) W := by
  have h : (Try.prog.info? 38).bind (·.zero) = some (.agg opZ.cells.toArray) := by kernel_rfl
  cases hq : Try.prog.info? 38 with
  | none => rw [hq] at h; simp at h
  | some i =>
    rw [hq] at h
    simp only [Option.bind_some] at h
    simp [zeroValue, typeInfo, hq, h]
theorem wpList_op_alloc (hw : Region.wanted o (yielded ops a.tmps) = true) (ho : o.op = .alloc 38) (S : Nat) (hS : w.heap.size = S) (h : wpList Try.prog ops Q rest (a.put o.dst (.pointer (some ⟨S, 0, none⟩))) (w.alloc (.cells opZ.cells.toArray 38))) : wpList Try.prog ops Q (o :: rest) a w :=
  wanted_step hw fun K hK => by
    subst hS
    have e := opZero_run w
    unfold Oper.wp execOp
    simp only [ho]
    simp [go_sem, e]
    exact hK _ _ h
end
theorem keeps_setCells (B : Nat) (vs : List Value) (o : Nat) (w : World) : Keeps (fun k => k = B) w (w.setCells B o vs) := Keeps.but (S := fun k => k = B) (Keeps.refl _ w) (but_setCells B vs o w) rfl
section
variable {ops : Array Oper} {rest : List Oper} {o : Oper} {a : Act} {w : World} {Q : Exit → Act → World → Prop}
theorem wpList_line_elem0 (hgd : o.guard = none) (x y : Operand) (ho : o.op = .indexAddr 34 x y) (B n cap k : Nat) (hx : a.eval x = .slice (some ⟨B, 0, none⟩) n cap) (hy : a.eval y = .int .i64 k) (hk : k < n) (h : wpList Try.prog ops Q rest (a.put o.dst (.pointer (some ⟨B, 131 * k, none⟩))) w) : wpList Try.prog ops Q (o :: rest) a w :=
  wpList_line_elem hgd x y ho B 0 n cap k hx hy hk (by rw [Nat.zero_add]; exact h)
theorem wpList_line_put (hgd : o.guard = none) (x y : Operand) (ho : o.op = .store 42 x y) (hd : o.dst = none) (B off : Nat) (hx : a.eval x = .pointer (some ⟨B, off, none⟩)) (c : LineOf) (hy : a.eval y = lineV c) (ht : w.there B off 131)
    (h : wpList Try.prog ops Q rest a (w.setCells B off (lineC c))) : wpList Try.prog ops Q (o :: rest) a w :=
  wpList_store_mid hgd 42 x y ho B off (lineC c).toArray hx hy (by rw [List.size_toArray, lineC_len]; exact ht) (lineA_size c) (lineA_one c) (by rw [hd]; exact h)
end
theorem opA_size (c : OpOf) : (Try.prog.info? 38).map (·.size) = some c.cells.toArray.size := by
  show _ = some 5
  kernel_rfl
theorem opA_one (c : OpOf) : c.cells.toArray.all (·.oneCell') = true := by simp [OpOf.cells, Value.oneCell']
theorem dirty_oks {ls : List LineOf} (h : ∀ x ∈ ls, x.ok) : ∀ x ∈ dirtyL ls, x.ok := fun x hx => h x (List.mem_filter.1 hx).1
theorem take_oks {ls : List LineOf} (h : ∀ x ∈ ls, x.ok) (k : Nat) : ∀ x ∈ ls.take k, x.ok := fun x hx => h x (List.mem_of_mem_take hx)
theorem takeD_oks {ls : List LineOf} (h : ∀ x ∈ ls, x.ok) (m : Int) : ∀ x ∈ takeD ls m, x.ok := fun x hx => by unfold takeD at hx; split at hx; exact h x hx; exact h x (List.mem_of_mem_take hx)
/-- Where a row's lines are written over: none, or one block. -/
def RoomL (W : World) (p : Option Addr) (n : Nat) : Prop := n = 0 ∨ ∃ LB, p = some ⟨LB, 0, none⟩ ∧ LinesB W LB n
theorem OwnL.room {w : World} {base top n c : Nat} {p : Option Addr} {l : List LineOf} (h : OwnL 42 131 lineC w base top (.slice p n c) l) (hn : l.length = n) : RoomL w p n := by
  rcases h.shape with ⟨e, _⟩ | ⟨LB, c', e⟩
  · injection e with e1 e2 e3
    exact .inl e2
  · injection e with e1 e2 e3
    subst e1
    have := (OwnL.linesB (by rw [e2] at h; exact h)).1
    rw [hn] at this
    exact .inr ⟨LB, rfl, this⟩
theorem RoomL.keep {W W' : World} {p : Option Addr} {n : Nat} (h : RoomL W p n) (hb : ∀ j, p = some ⟨j, 0, none⟩ → W'.heap[j]? = W.heap[j]?) : RoomL W' p n := by
  rcases h with h | ⟨LB, rfl, h⟩
  · exact .inl h
  · exact .inr ⟨LB, rfl, h.keep (hb LB rfl)⟩
theorem op_laid (W : World) (c : OpOf) : OpBox ((W.alloc (.cells opZ.cells.toArray 38)).setRow W.heap.size c.cells.toArray) W.heap.size c ∧ Below W.heap.size W ((W.alloc (.cells opZ.cells.toArray 38)).setRow W.heap.size c.cells.toArray) ∧
    ((W.alloc (.cells opZ.cells.toArray 38)).setRow W.heap.size c.cells.toArray).heap.size = W.heap.size + 1 :=
  ⟨setRow_heap _ _ _ _ _ (0, 0) (heap_alloc_new W _), below_setRow ((Below.refl _ W).alloc (Nat.le_refl _) _) (Nat.le_refl _) _, by simp⟩
theorem rows_op {W : World} {q : Option Addr} {l : List OpOf} (h : OpsAt W q l) {k : Nat} (hk : k < l.length) : ∃ B o c, q = some ⟨B, o, none⟩ ∧ B < W.heap.size ∧ W.rangeAt B (o + 5 * k) (opsC c) ∧ c ∈ l := by
  rcases h with rfl | ⟨B, o, h1, h2, h3⟩
  · simp at hk
  · exact ⟨B, o, l[k], h1, h2, h3 k _ (List.getElem?_eq_getElem hk), List.getElem_mem hk⟩
end Go.Proofs.Ytlaclakndleonaa

/- Quiet laws for bytes held against bytes: cells of ints and of slices, lengths, strings. Condition: what the class keeps. -/
import Derived.Test.YtibbnnechjmdmaaDoorDigLaw
import Derived.Test.YtibbnnechjmdmaaDoorPiecesD
namespace Go.Proofs.YtibbnnechjmdmaaDoor
open Go.ChangeShapes Go.WideShapes Go.ChangeAt Go.RowKit

section
variable {o : Oper} {a : Act} {C : World → Prop} {K : Act → Prop}
theorem quiet_int_load (x : Operand) (ho : o.op = .load 3 x) (B k : Nat) (v : Value) (hx : a.eval x = .pointer (some ⟨B, k, none⟩)) (hB : ∀ w, C w → w.cell? ⟨B, k, none⟩ = some v) (hk : K (a.put o.dst v)) : o.quiet Tryd.prog a C K := by
  refine quiet_value _ (fun w hw => ?_) hk
  have hc := hB w hw
  unfold execOp
  simp only [ho, hx]
  simp [go_sem, hc]
theorem quiet_slice_load (x : Operand) (ho : o.op = .load 34 x) (B k : Nat) (v : Value) (hx : a.eval x = .pointer (some ⟨B, k, none⟩)) (hB : ∀ w, C w → w.cell? ⟨B, k, none⟩ = some v) (hk : K (a.put o.dst v)) : o.quiet Tryd.prog a C K := by
  refine quiet_value _ (fun w hw => ?_) hk
  have hc := hB w hw
  unfold execOp
  simp only [ho, hx]
  simp [go_sem, hc]
theorem quiet_int_mul (x y : Operand) (ho : o.op = .binOp .mul 3 x y 3) (i j r : Int) (hx : a.eval x = .int .i64 i) (hy : a.eval y = .int .i64 j) (h : IntKind.i64.wrap (i * j) = r) (hk : K (a.put o.dst (.int .i64 r))) : o.quiet Tryd.prog a C K := by
  refine quiet_value _ (fun w _ => ?_) hk
  unfold execOp
  simp only [ho, hx, hy]
  simp [go_sem, h]
theorem quiet_int_gtr (x y : Operand) (ho : o.op = .binOp .gtr 3 x y 3) (i j : Int) (r : Bool) (hx : a.eval x = .int .i64 i) (hy : a.eval y = .int .i64 j) (h : decide (j < i) = r) (hk : K (a.put o.dst (.bool r))) : o.quiet Tryd.prog a C K := by
  refine quiet_value _ (fun w _ => ?_) hk
  unfold execOp
  simp only [ho, hx, hy]
  simp [go_sem, ← h]
theorem quiet_len (x : Operand) (ho : o.op = .call { callee := .builtin .len, args := #[x], argTypes := #[34] }) (p : Option Addr) (n cap : Nat) (hx : a.eval x = .slice p n cap) (hk : K (a.put o.dst (.int .i64 n))) : o.quiet Tryd.prog a C K := by
  refine quiet_value _ (fun w _ => ?_) hk
  have hr : (Builtin.len_ #[34] o.type #[.slice p n cap]).run Tryd.prog w = .ok (.int .i64 n) w := by simp [go_sem]
  unfold execOp
  simp only [ho]
  simp [hx, resolve, invoke, builtin, hr, Result.andThen]
theorem string_run (p : Option Addr) (n cap : Nat) (g : Nat → Nat) (w : World) (hp : BytesAt w p n g) : (convert 34 9 (.slice p n cap)).run Tryd.prog w = .ok (.string (strOfNums (mk n g))) w := by
  by_cases h0 : n = 0
  · subst h0
    rw [run_convert_bytes_string w _ _ 5 p 0 cap bytesUnder byteUnder1 stringUnder1]
    cases p with
    | none => rfl
    | some ad =>
      rw [run_bytesToString w ad 0 cap [] (by simpa using run_loadCells_list (P := Tryd.prog) w ad [] (fun j v hj => by simp at hj))]
      rfl
  · rcases hp with hp | ⟨B, off, rfl, hB, hc⟩
    · exact absurd hp h0
    · exact run_convert_bytes_arg w _ 5 bytesUnder byteUnder1 B off n cap (mk n g) (mk_len n g) (fun i hi => by rw [mk_get hi]; exact hc i hi) _ stringUnder1
theorem quiet_string (x : Operand) (ho : o.op = .convert 34 9 x) (p : Option Addr) (n cap : Nat) (g : Nat → Nat) (hx : a.eval x = .slice p n cap) (hp : ∀ w, C w → BytesAt w p n g) (hk : K (a.put o.dst (.string (strOfNums (mk n g))))) : o.quiet Tryd.prog a C K := by
  refine quiet_value _ (fun w hw => ?_) hk
  have hr := string_run p n cap g w (hp w hw)
  unfold execOp
  simp only [ho]
  simp [hx, hr]
theorem quiet_string_neq (x y : Operand) (ho : o.op = .binOp .neq 9 x y 9) (s t : Value) (b c : _) (hs : s = .string b) (ht : t = .string c) (hx : a.eval x = s) (hy : a.eval y = t) (h : b = c) (hk : K (a.put o.dst (.bool false))) : o.quiet Tryd.prog a C K := by
  subst hs ht h
  refine quiet_value _ (fun w _ => ?_) hk
  unfold execOp
  simp only [ho, hx, hy]
  simp [go_sem]
end
section
variable {W W' : World} {M N : Nat}
/-- One block apart, all is as it was. -/
theorem apart_cell {b j : Nat} (hs : ∀ k, k < M → k ≠ N → W'.heap[k]? = W.heap[k]?) (hb : b < M) (hn : b ≠ N) : W'.cell? ⟨b, j, none⟩ = W.cell? ⟨b, j, none⟩ := World.cell?_of_block (w := W) (hs b hb hn)
theorem int_cell {j : Nat} {v : Value} {k : IntKind} {t : TypeId} {l : List Int} (h : IntBlk W N k t l) (hv : W.cell? ⟨N, j, none⟩ = some v) : ∃ x, v = .int k x := by
  rw [cell_of_row W N j (cellsOf k l) t (0, 0) h] at hv
  unfold cellsOf at hv
  simp at hv
  obtain ⟨x, _, rfl⟩ := hv
  exact ⟨x, rfl⟩
theorem partsIn_apart {q : Option Addr} {np : Nat} {P : Nat → Option Addr × Nat × Nat} {g : Nat → Nat} {k : IntKind} {t : TypeId} {l : List Int} (h : PartsIn M W q np P g) (hI : IntBlk W N k t l) (hk : k ≠ .u8) (hs : ∀ k, k < M → k ≠ N → W'.heap[k]? = W.heap[k]?) : PartsIn M W' q np P g := by
  refine ⟨?_, fun i hi => ?_⟩
  · rcases h.1 with h | ⟨B, o, h1, h2, h3⟩
    · exact .inl h
    · refine .inr ⟨B, o, h1, h2, fun i hi => ?_⟩
      have h4 := h3 i hi
      have hn : B ≠ N := fun e => by subst e; obtain ⟨x, hx⟩ := int_cell hI h4; cases hx
      rw [apart_cell hs h2 hn]; exact h4
  · rcases h.2 i hi with h | ⟨B, o, h1, h2, h3⟩
    · exact .inl h
    · refine .inr ⟨B, o, h1, h2, fun j hj => ?_⟩
      have h4 := h3 j hj
      have hn : B ≠ N := fun e => by subst e; obtain ⟨x, hx⟩ := int_cell hI h4; cases hx; exact hk rfl
      rw [apart_cell hs h2 hn]; exact h4
theorem bytesAt_apart {p : Option Addr} {n : Nat} {g : Nat → Nat} {k : IntKind} {t : TypeId} {l : List Int} (h : BytesAt W p n g) (hI : IntBlk W N k t l) (hk : k ≠ .u8) (hM : M = W.heap.size) (hW : W.heap.size ≤ W'.heap.size) (hs : ∀ k, k < M → k ≠ N → W'.heap[k]? = W.heap[k]?) : BytesAt W' p n g := by
  subst hM
  by_cases h0 : n = 0
  · exact .inl h0
  rcases h with h | ⟨B, o, h1, h2, h3⟩
  · exact .inl h
  · refine .inr ⟨B, o, h1, by omega, fun j hj => ?_⟩
    have h4 := h3 j hj
    have hn : B ≠ N := fun e => by subst e; obtain ⟨x, hx⟩ := int_cell hI h4; cases hx; exact hk rfl
    rw [apart_cell hs h2 hn]; exact h4
end
end Go.Proofs.YtibbnnechjmdmaaDoor

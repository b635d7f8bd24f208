/- TrText: cut by mktr.py out of RdNumO, RdKeys, RdFirst, RdStore: bytes and integers as lists, slices of arrays. Conditions: as each says. -/
import Derived.Test.YtbdldnhpgpjnoaaDoorTrBlk
namespace Go.Proofs.YtbdldnhpgpjnoaaDoor
open Go.ChangeShapes Go.WideShapes Go.ChangeAt Go.RowKit
set_option linter.unusedVariables false
def byteC (z : Int) : List Value := [.int .u8 z]
theorem elemByte : ElemOf Tryd.prog 22 5 1 1 byteC where
  under := Tryd.underlying22
  size := by kernel_rfl
  bytes := by kernel_rfl
  zero := ⟨.int .u8 0, by kernel_rfl, rfl⟩
  len := fun _ => rfl
  one := fun c u hu => by
    obtain rfl : u = .int .u8 c := by simpa [byteC] using hu
    rfl
  pos := by decide
theorem bytes_flat (n : Nat) (F : Nat → Nat) : bytesList n F = (mk n F).flatMap byteC := by
  unfold bytesList mk byteC
  rw [List.flatMap_map, List.flatMap_def]
  induction List.range n with
  | nil => rfl
  | cons a l ih => rw [List.map_cons, List.map_cons, List.flatten_cons, ih]; rfl
theorem own_list {w : World} {base top : Nat} {v : Value} {n : Nat} {F : Nat → Nat} (h : OwnS 5 1 w base top v n F) : OwnL 5 1 byteC w base top v (mk n F) := by
  rcases h with ⟨h1, h2⟩ | ⟨B, c, cur, h1, h2, h3, h4, h5, h6, h7, h8⟩
  · subst h2; exact .inl ⟨h1, rfl⟩
  · refine .inr ⟨B, c, cur, by rw [mk_len]; exact h1, h2, h3, h4, by rw [mk_len]; exact h5, h6, h7, ?_⟩
    rw [mk_len, h8, Nat.mul_one, bytes_flat]
theorem rows_bytes {w : World} {p : Option Addr} {l : List Int} (h : RowsAt 1 byteC w p l) (hl : IsBytes l) : BytesAt w p l.length (natF l) := by
  rcases h with rfl | ⟨B, o, h1, h2, h3⟩
  · exact .inl rfl
  · refine .inr ⟨B, o, h1, h2, fun j hj => ?_⟩
    have := h3 j l[j] (List.getElem?_eq_getElem hj) 0 _ rfl
    rw [Nat.one_mul, Nat.add_zero] at this
    rw [this]
    have hb := hl _ (List.getElem_mem hj)
    unfold natF
    rw [List.getD_eq_getElem?_getD, List.getElem?_eq_getElem hj, Option.getD_some, Int.toNat_of_nonneg hb.1]
theorem bytes_rows {w : World} {p : Option Addr} {l : List Int} (h : BytesAt w p l.length (natF l)) (hl : IsBytes l) : RowsAt 1 byteC w p l := by
  rcases h with h | ⟨B, o, h1, h2, h3⟩
  · exact .inl (List.eq_nil_of_length_eq_zero h)
  · refine .inr ⟨B, o, h1, h2, fun i c hc j v hv => ?_⟩
    obtain ⟨hi, rfl⟩ := List.getElem?_eq_some_iff.1 hc
    have hj : j = 0 := by
      have := (List.getElem?_eq_some_iff.1 hv).1
      unfold byteC at this; simpa using this
    subst hj
    have hv2 : Value.int .u8 l[i] = v := by unfold byteC at hv; simpa using hv
    rw [Nat.one_mul, Nat.add_zero, h3 i hi, ← hv2]
    have hb := hl _ (List.getElem_mem hi)
    unfold natF
    rw [List.getD_eq_getElem?_getD, List.getElem?_eq_getElem hi, Option.getD_some, Int.toNat_of_nonneg hb.1]
def intC (z : Int) : List Value := [.int .i64 z]
theorem elemInt : ElemOf Tryd.prog 39 3 1 8 intC where
  under := Tryd.underlying39
  size := by kernel_rfl
  bytes := by kernel_rfl
  zero := ⟨.int .i64 0, by kernel_rfl, rfl⟩
  len := fun _ => rfl
  one := fun c u hu => by
    obtain rfl : u = .int .i64 c := by simpa [intC] using hu
    rfl
  pos := by decide
theorem int_cell {w : World} {q : Option Addr} {l : List Int} (h : RowsAt 1 intC w q l) {k : Nat} (hk : k < l.length) : ∃ B o, q = some ⟨B, o, none⟩ ∧ B < w.heap.size ∧ w.cell? ⟨B, o + k, none⟩ = some (.int .i64 l[k]) := by
  rcases h with rfl | ⟨B, o, h1, h2, h3⟩
  · simp at hk
  · have := h3 k _ (List.getElem?_eq_getElem hk) 0 _ rfl
    rw [Nat.one_mul, Nat.add_zero] at this
    exact ⟨B, o, h1, h2, this⟩

theorem fill_int1 (z : Int) : Instr.fill (fun i => some (i * 1, 1)) ((Array.range (1 * 1)).map ((Value.int .i64 0).cells[· % (Value.int .i64 0).cells.size]!)) [(0, Value.int .i64 z)] = some ([z].flatMap intC).toArray := by kernel_rfl
theorem run_int1 (z : Int) (w : World) : (Instr.buildSlice 39 1 #[(0, .int .i64 z)]).run Tryd.prog w = .ok (.slice (some ⟨w.heap.size, 0, none⟩) 1 1) (w.alloc (.cells ([z].flatMap intC).toArray 3)) := by
  have hi : (Tryd.prog.info? 3).map (·.size) = some 1 := by kernel_rfl
  have hz : (Tryd.prog.info? 3).bind (·.zero) = some (.int .i64 0) := by kernel_rfl
  cases hq : Tryd.prog.info? 3 with
  | none => rw [hq] at hi; simp at hi
  | some i =>
    rw [hq] at hi hz
    have hs : i.size = 1 := by simpa using hi
    have hzz : i.zero = some (.int .i64 0) := by simpa using hz
    refine run_buildSlice w 39 3 1 _ _ i _ Tryd.underlying39 hq hzz (by rw [hs]; omega) (by rw [hs]; omega) ?_
    rw [hs]; exact fill_int1 z
theorem own_int1 (w : World) (z : Int) (base : Nat) (hb : base ≤ w.heap.size) : OwnL 3 1 intC (w.alloc (.cells (intC z).toArray 3)) base (w.heap.size + 1) (.slice (some ⟨w.heap.size, 0, none⟩) 1 1) [z] := by
  have := own_new (e := 3) elemInt.len w [z] base hb (by simp)
  simpa using this
theorem rows_int1 (w : World) (z : Int) : RowsAt 1 intC (w.alloc (.cells (intC z).toArray 3)) (some ⟨w.heap.size, 0, none⟩) [z] := by
  have := rows_new elemInt.len w [z] 3
  simpa using this
section
variable {ops : Array Oper} {rest : List Oper} {o : Oper} {a : Act} {w : World} {Q : Exit → Act → World → Prop}
theorem wpList_int1 (hgd : o.guard = none) (x : Operand) (ho : o.op = .buildSlice 39 1 #[(0, x)]) (z : Int) (hx : a.eval x = .int .i64 z)
    (h : wpList Tryd.prog ops Q rest (a.put o.dst (.slice (some ⟨w.heap.size, 0, none⟩) 1 1)) (w.alloc (.cells (intC z).toArray 3))) : wpList Tryd.prog ops Q (o :: rest) a w :=
  wpList_plain hgd fun _ hK => by
    have e := run_int1 z w
    rw [show [z].flatMap intC = intC z by simp] at e
    unfold Oper.wp execOp
    simp only [ho]
    simp [hx, e]
    exact hK _ _ h
end
theorem int_cellD {w : World} {q : Option Addr} {l : List Int} (h : RowsAt 1 intC w q l) {k : Nat} (hk : k < l.length) : ∃ B o, q = some ⟨B, o, none⟩ ∧ B < w.heap.size ∧ w.cell? ⟨B, o + k, none⟩ = some (.int .i64 (l.getD k 0)) := by
  rw [show l.getD k 0 = l[k] by rw [List.getD_eq_getElem?_getD, List.getElem?_eq_getElem hk]; rfl]; exact int_cell h hk
section
variable {ops : Array Oper} {rest : List Oper} {o : Oper} {a : Act} {w : World} {Q : Exit → Act → World → Prop} {C : World → Prop} {K : Act → Prop}
theorem arr_slice (t e : TypeId) (n : Nat) (hu : Tryd.prog.underlying t = some (.array n e)) (he : e = 5) (B off : Nat) (w : World) : (Instr.sliceAt t (.pointer (some ⟨B, off, none⟩)) none none none).run Tryd.prog w = .ok (.slice (some ⟨B, off, none⟩) n n) w := by
  subst he
  have hs := byteElem.run_size (P := Tryd.prog) w
  simp [go_sem, hs, addr_add, Program.elem, hu]
theorem gives_arr_slice (t e : TypeId) (n : Nat) (hu : Tryd.prog.underlying t = some (.array n e)) (he : e = 5) (x : Operand) (ho : o.op = .slice t x none none none) (B off : Nat) (hx : a.eval x = .pointer (some ⟨B, off, none⟩)) (hk : K (a.put o.dst (.slice (some ⟨B, off, none⟩) n n))) : ∃ v, Gives Tryd.prog C o a v ∧ K (a.put o.dst v) :=
  ⟨_, fun w _ => by
    have hr := arr_slice t e n hu he B off w
    unfold execOp
    simp only [ho, hx]
    simp [hr], hk⟩
theorem wpList_arr_slice (hw : Region.wanted o (yielded ops a.tmps) = true) (t e : TypeId) (n : Nat) (hu : Tryd.prog.underlying t = some (.array n e)) (he : e = 5) (x : Operand) (ho : o.op = .slice t x none none none) (B off : Nat) (hx : a.eval x = .pointer (some ⟨B, off, none⟩))
    (h : wpList Tryd.prog ops Q rest (a.put o.dst (.slice (some ⟨B, off, none⟩) n n)) w) : wpList Tryd.prog ops Q (o :: rest) a w :=
  wanted_step hw fun K hK => by
    have hr := arr_slice t e n hu he B off w
    unfold Oper.wp execOp
    simp only [ho, hx]
    simp [hr]
    exact hK _ _ h
end
end Go.Proofs.YtbdldnhpgpjnoaaDoor

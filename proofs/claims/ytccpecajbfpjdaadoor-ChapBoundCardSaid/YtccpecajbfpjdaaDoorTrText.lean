/- TrText: cut by mktr.py out of RdNumO, RdKeys, RdFirst, RdStore: bytes and integers as lists, slices of arrays. Conditions: as each says. -/
import Derived.Test.YtccpecajbfpjdaaDoorTrBlk
namespace Go.Proofs.YtccpecajbfpjdaaDoor
open Go.ChangeShapes Go.WideShapes Go.ChangeAt Go.RowKit
set_option linter.unusedVariables false
def byteC (z : Int) : List Value := [.int .u8 z]
theorem elemByte : ElemOf Tryd.prog 22 5 1 1 byteC where
  under := Tryd.underlying22
  size := by kernel_rfl
  bytes := by kernel_rfl
  zero := ⟨.int .u8 0, by kernel_rfl, rfl⟩
  len := fun _ => rfl
  one := fun c u hu => by
    obtain rfl : u = .int .u8 c := by simpa [byteC] using hu
    rfl
  pos := by decide
theorem bytes_flat (n : Nat) (F : Nat → Nat) : bytesList n F = (mk n F).flatMap byteC := by
  unfold bytesList mk byteC
  rw [List.flatMap_map, List.flatMap_def]
  induction List.range n with
  | nil => rfl
  | cons a l ih => rw [List.map_cons, List.map_cons, List.flatten_cons, ih]; rfl
theorem own_list {w : World} {base top : Nat} {v : Value} {n : Nat} {F : Nat → Nat} (h : OwnS 5 1 w base top v n F) : OwnL 5 1 byteC w base top v (mk n F) := by
  rcases h with ⟨h1, h2⟩ | ⟨B, c, cur, h1, h2, h3, h4, h5, h6, h7, h8⟩
  · subst h2; exact .inl ⟨h1, rfl⟩
  · refine .inr ⟨B, c, cur, by rw [mk_len]; exact h1, h2, h3, h4, by rw [mk_len]; exact h5, h6, h7, ?_⟩
    rw [mk_len, h8, Nat.mul_one, bytes_flat]
theorem rows_bytes {w : World} {p : Option Addr} {l : List Int} (h : RowsAt 1 byteC w p l) (hl : IsBytes l) : BytesAt w p l.length (natF l) := by
  rcases h with rfl | ⟨B, o, h1, h2, h3⟩
  · exact .inl rfl
  · refine .inr ⟨B, o, h1, h2, fun j hj => ?_⟩
    have := h3 j l[j] (List.getElem?_eq_getElem hj) 0 _ rfl
    rw [Nat.one_mul, Nat.add_zero] at this
    rw [this]
    have hb := hl _ (List.getElem_mem hj)
    unfold natF
    rw [List.getD_eq_getElem?_getD, List.getElem?_eq_getElem hj, Option.getD_some, Int.toNat_of_nonneg hb.1]
theorem bytes_rows {w : World} {p : Option Addr} {l : List Int} (h : BytesAt w p l.length (natF l)) (hl : IsBytes l) : RowsAt 1 byteC w p l := by
  rcases h with h | ⟨B, o, h1, h2, h3⟩
  · exact .inl (List.eq_nil_of_length_eq_zero h)
  · refine .inr ⟨B, o, h1, h2, fun i c hc j v hv => ?_⟩
    obtain ⟨hi, rfl⟩ := List.getElem?_eq_some_iff.1 hc
    have hj : j = 0 := by
      have := (List.getElem?_eq_some_iff.1 hv).1
      unfold byteC at this; simpa using this
    subst hj
    have hv2 : Value.int .u8 l[i] = v := by unfold byteC at hv; simpa using hv
    rw [Nat.one_mul, Nat.add_zero, h3 i hi, ← hv2]
    have hb := hl _ (List.getElem_mem hi)
    unfold natF
    rw [List.getD_eq_getElem?_getD, List.getElem?_eq_getElem hi, Option.getD_some, Int.toNat_of_nonneg hb.1]
section
variable {ops : Array Oper} {rest : List Oper} {o : Oper} {a : Act} {w : World} {Q : Exit → Act → World → Prop} {C : World → Prop} {K : Act → Prop}
theorem arr_slice (t e : TypeId) (n : Nat) (hu : Tryd.prog.underlying t = some (.array n e)) (he : e = 5) (B off : Nat) (w : World) : (Instr.sliceAt t (.pointer (some ⟨B, off, none⟩)) none none none).run Tryd.prog w = .ok (.slice (some ⟨B, off, none⟩) n n) w := by
  subst he
  have hs := byteElem.run_size (P := Tryd.prog) w
  simp [go_sem, hs, addr_add, Program.elem, hu]
theorem gives_arr_slice (t e : TypeId) (n : Nat) (hu : Tryd.prog.underlying t = some (.array n e)) (he : e = 5) (x : Operand) (ho : o.op = .slice t x none none none) (B off : Nat) (hx : a.eval x = .pointer (some ⟨B, off, none⟩)) (hk : K (a.put o.dst (.slice (some ⟨B, off, none⟩) n n))) : ∃ v, Gives Tryd.prog C o a v ∧ K (a.put o.dst v) :=
  ⟨_, fun w _ => by
    have hr := arr_slice t e n hu he B off w
    unfold execOp
    simp only [ho, hx]
    simp [hr], hk⟩
theorem wpList_arr_slice (hw : Region.wanted o (yielded ops a.tmps) = true) (t e : TypeId) (n : Nat) (hu : Tryd.prog.underlying t = some (.array n e)) (he : e = 5) (x : Operand) (ho : o.op = .slice t x none none none) (B off : Nat) (hx : a.eval x = .pointer (some ⟨B, off, none⟩))
    (h : wpList Tryd.prog ops Q rest (a.put o.dst (.slice (some ⟨B, off, none⟩) n n)) w) : wpList Tryd.prog ops Q (o :: rest) a w :=
  wanted_step hw fun K hK => by
    have hr := arr_slice t e n hu he B off w
    unfold Oper.wp execOp
    simp only [ho, hx]
    simp [hr]
    exact hK _ _ h
end
end Go.Proofs.YtccpecajbfpjdaaDoor

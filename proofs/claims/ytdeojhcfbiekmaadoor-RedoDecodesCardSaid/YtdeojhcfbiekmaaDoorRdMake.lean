/- Slices of sectors that are made: noughts. Condition: not more than 100,000. -/
import Derived.Test.YtdeojhcfbiekmaaDoorRdStore
namespace Go.Proofs.YtdeojhcfbiekmaaDoor
open Go.ChangeShapes Go.WideShapes Go.ChangeAt Go.RowKit
set_option linter.unusedVariables false
theorem secC_nil : secC [] = List.replicate 128 (Value.int .u8 0) := by kernel_rfl
set_option maxRecDepth 100000 in
theorem flat_nils : ∀ k : Nat, (List.replicate k ([] : List Int)).flatMap secC = List.replicate (k * 128) (Value.int .u8 0)
  | 0 => rfl
  | k + 1 => by rw [List.replicate_succ, List.flatMap_cons, flat_nils k, secC_nil, List.replicate_append_replicate, Nat.succ_mul, Nat.add_comm]
set_option maxRecDepth 100000 in
theorem made_nils (n : Nat) : (madeCells (secVal []).cells n).toList = List.replicate n (Value.int .u8 0) := by
  have hz : ∀ i, i < 128 → (secVal []).cells[i]! = Value.int .u8 0 := fun i hi => by
    have hs : (secVal []).cells.size = 128 := by show (cellsOf .u8 (mk 128 (natF []))).size = 128; rw [cellsOf_size, mk_len]
    have e : (secVal []).cells[i]? = some (.int .u8 0) := by
      show (cellsOf .u8 (mk 128 (natF [])))[i]? = _
      rw [cellsOf_get .u8 _ (by rw [mk_len]; exact hi), mk_get hi]; rfl
    rw [getElem!_pos _ _ (by omega)]
    rw [Array.getElem?_eq_getElem (by omega)] at e
    exact Option.some.inj e
  have hsz : (secVal []).cells.size = 128 := by show (cellsOf .u8 (mk 128 (natF []))).size = 128; rw [cellsOf_size, mk_len]
  apply List.ext_getElem
  · simp [madeCells]
  · intro j h1 h2
    simp only [madeCells, Array.toList_map, List.getElem_map, List.getElem_replicate]
    exact hz _ (Nat.lt_of_lt_of_eq (Nat.mod_lt _ (Nat.lt_of_lt_of_eq (by omega) hsz.symm)) hsz)
set_option maxRecDepth 100000 in
theorem run_make_nils (w : World) (k N base : Nat) (hk : k ≤ N) (hN : N ≤ 100000) (hb : base ≤ w.heap.size) : ∃ w', (Instr.makeSlice 25 (.int .i64 (k : Nat)) (.int .i64 (N : Nat))).run Tryd.prog w = .ok (.slice (some ⟨w.heap.size, 0, none⟩) k N) w' ∧
    OwnL 31 128 secC w' base w'.heap.size (.slice (some ⟨w.heap.size, 0, none⟩) k N) (List.replicate k ([] : List Int)) ∧ Below w.heap.size w w' := by
  have hi := secSz
  have hz := secZro
  have hb' : (Tryd.prog.info? 31).map (·.bytes) = some 128 := by kernel_rfl
  cases hq : Tryd.prog.info? 31 with
  | none => rw [hq] at hi; simp at hi
  | some i =>
    rw [hq] at hi hz hb'
    have hs : i.size = 128 := by simpa using hi
    have hzz : i.zero = some (secVal []) := by simpa using hz
    have hbb : i.bytes = 128 := by simpa using hb'
    have hrun := run_make (P := Tryd.prog) w 25 31 i (secVal []) Tryd.underlying25 hq hzz .i64 .i64 (k : Nat) (N : Nat) (by omega) (by omega) (by rw [hbb]; omega) (by omega)
    rw [hs, Int.toNat_natCast, Int.toNat_natCast] at hrun
    refine ⟨_, hrun, .inr ⟨w.heap.size, N, _, by rw [List.length_replicate], hb, by simp, heap_alloc_new _ _, by rw [List.length_replicate]; exact hk, by unfold maxLen; omega, by simp [madeCells], ?_⟩, (Below.refl _ _).alloc (Nat.le_refl _) _⟩
    rw [List.length_replicate, made_nils, flat_nils, List.take_replicate, Nat.min_eq_left (Nat.mul_le_mul_right _ hk)]
section
variable {ops : Array Oper} {rest : List Oper} {o : Oper} {a : Act} {w : World} {Q : Exit → Act → World → Prop}
theorem wpList_make_nils (hgd : o.guard = none) (x y : Operand) (ho : o.op = .makeSlice 25 x y) (k N base : Nat) (hx : a.eval x = .int .i64 (k : Nat)) (hy : a.eval y = .int .i64 (N : Nat)) (hk : k ≤ N) (hN : N ≤ 100000) (hb : base ≤ w.heap.size)
    (h : ∀ w' : World, OwnL 31 128 secC w' base w'.heap.size (.slice (some ⟨w.heap.size, 0, none⟩) k N) (List.replicate k ([] : List Int)) → Below w.heap.size w w' → wpList Tryd.prog ops Q rest (a.put o.dst (.slice (some ⟨w.heap.size, 0, none⟩) k N)) w') : wpList Tryd.prog ops Q (o :: rest) a w := by
  obtain ⟨w', hrun, h1, h2⟩ := run_make_nils w k N base hk hN hb
  refine wpList_plain hgd fun K hK => ?_
  unfold Oper.wp execOp
  simp only [ho]
  simp [hx, hy, hrun]
  exact hK _ _ (h w' h1 h2)
theorem done_make_nils {K : Value → World → Prop} (x y : Operand) (ho : o.op = .makeSlice 25 x y) (k N base : Nat) (hx : a.eval x = .int .i64 (k : Nat)) (hy : a.eval y = .int .i64 (N : Nat)) (hk : k ≤ N) (hN : N ≤ 100000) (hb : base ≤ w.heap.size)
    (h : ∀ w' : World, OwnL 31 128 secC w' base w'.heap.size (.slice (some ⟨w.heap.size, 0, none⟩) k N) (List.replicate k ([] : List Int)) → Below w.heap.size w w' → K (.slice (some ⟨w.heap.size, 0, none⟩) k N) w') : doneAt Tryd.prog o a w K := by
  obtain ⟨w', hrun, h1, h2⟩ := run_make_nils w k N base hk hN hb
  unfold doneAt execOp
  simp only [ho]
  simp [hx, hy, hrun]
  exact h w' h1 h2
end
end Go.Proofs.YtdeojhcfbiekmaaDoor

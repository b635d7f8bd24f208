/- What RedoReturns' walk asks: sectors of noughts appended, places and bits reckoned, a byte of a sector turned. Conditions: as each says. -/
import Derived.Test.YtdeojhcfbiekmaaDoorRdMixL
import Derived.Lib.AppendZerosOnto
namespace Go.Proofs.YtdeojhcfbiekmaaDoor
open Go.ChangeShapes Go.WideShapes Go.ChangeAt Go.RowKit
set_option linter.unusedVariables false
set_option maxRecDepth 100000 in
theorem zeros_secs (m : Nat) : (Builtin.zeroCells (secVal []).cells m).toList = (List.replicate m ([] : List Int)).flatMap secC := by
  have hsz : (secVal []).cells.size = 128 := by show (cellsOf .u8 (mk 128 (natF []))).size = 128; rw [cellsOf_size, mk_len]
  show (madeCells (secVal []).cells (m * (secVal []).cells.size)).toList = _
  rw [made_nils, hsz, flat_nils]
theorem sec_zero_size : (secVal []).cells.size = 128 := by show (cellsOf .u8 (mk 128 (natF []))).size = 128; rw [cellsOf_size, mk_len]
theorem append_nils {base top k c B : Nat} {l : List (List Int)} (w : World) (ty : TypeId) (hv : OwnL 31 128 secC w base top (.slice (some ⟨B, 0, none⟩) k c) l) (m : Nat) (hk : l.length + m ≤ 10000) (hbase : base ≤ w.heap.size) :
    ∃ v' w', (Builtin.append_ #[25, 3] ty #[.slice (some ⟨B, 0, none⟩) k c, .int .i64 m]).run Tryd.prog w = .ok v' w' ∧ OwnL 31 128 secC w' base w'.heap.size v' (l ++ List.replicate m []) ∧ Below base w w' := by
  have hi := secSz
  have hz := secZro
  have hb : (Tryd.prog.info? 31).map (·.bytes) = some 128 := by kernel_rfl
  have intU : Tryd.prog.underlying 3 = some (.int .i64) := Tryd.underlying3
  have secU : Tryd.prog.underlying 25 = some (.slice 31) := Tryd.underlying25
  have hw : IntKind.i64.wrap (m : Int) = m := IntWalk.i64_in _ (by omega)
  have hneg : ¬ ((m : Int) < 0) := by omega
  cases hq : Tryd.prog.info? 31 with
  | none => rw [hq] at hi; simp at hi
  | some i =>
    rw [hq] at hi hb hz
    have hsz : i.size = 128 := by simpa using hi
    have hzz : i.zero = some (secVal []) := by simpa using hz
    have hby : i.bytes = 128 := by simpa using hb
    have h48i : ¬ (281474976710656 < (m : Int) * 128) := by omega
    have hv0 := hv
    rcases hv with ⟨he, _⟩ | ⟨B', c', cur, he, h2, h3, h4, h5, h6, h7, h8⟩
    · cases he
    cases he
    have hfl : (l.flatMap secC).length = l.length * 128 := flatMap_len secC_len l
    have hzl : ((List.replicate m ([] : List Int)).flatMap secC).length = m * 128 := by rw [flatMap_len secC_len, List.length_replicate]
    by_cases h0 : m = 0
    · subst h0
      have hw0 : IntKind.i64.wrap 0 = 0 := by decide
      refine ⟨_, w, ?_, by rw [List.replicate_zero, List.append_nil]; exact OwnL.of_owns (hv0.owns secC_len), Below.refl _ _⟩
      simp [Builtin.append_, run_underlying secU, run_underlying intU, sizeOf, typeInfo, hq, asInt, asIntOf, hw0, h5, storeCells]
    · have hns : ¬ (m * 128 = 0) := by omega
      by_cases hroom : l.length + m ≤ c
      · have hst := run_storeCells_at Tryd.prog B (l.length * 128) 31 ((List.replicate m ([] : List Int)).flatMap secC) 0 cur w h4 (by rw [hzl, h7]; omega) (fun u hu => by
          obtain ⟨x, _, hx⟩ := List.mem_flatMap.1 hu
          exact secC_one x u hx)
        simp only [Nat.add_zero] at hst
        rw [hzl] at hst
        have hrun : (Builtin.append_ #[25, 3] ty #[.slice (some ⟨B, 0, none⟩) l.length c, .int .i64 m]).run Tryd.prog w = .ok (.slice (some ⟨B, 0, none⟩) (l.length + m) c) (w.setRow B (cur.toList.take (l.length * 128) ++ (List.replicate m ([] : List Int)).flatMap secC ++ cur.toList.drop (l.length * 128 + m * 128)).toArray) := by
          simp [Builtin.append_, run_underlying secU, run_underlying intU, sizeOf, typeInfo, zeroValue, hq, hzz, hsz, hby, asInt, asIntOf, hw, hneg, h48i, hns, hroom, Addr.add_lit, zeros_secs, hst]
        refine ⟨_, _, hrun, .inr ⟨B, c, _, by rw [List.length_append, List.length_replicate], h2, ?_, setRow_heap w B cur _ 31 _ h4, by rw [List.length_append, List.length_replicate]; exact hroom, h6, ?_, ?_⟩, below_setRow (Below.refl _ _) h2 _⟩
        · have := (Array.getElem?_eq_some_iff.1 h4).1
          simpa [World.setRow] using this
        · simp only [List.size_toArray, List.length_append, List.length_take, List.length_drop, Array.length_toList, hzl]
          omega
        · rw [h8, List.length_append, List.length_replicate, List.flatMap_append]
          show List.take ((l.length + m) * 128) ((l.flatMap secC ++ (List.replicate m ([] : List Int)).flatMap secC) ++ _) = _
          exact List.take_left' (by rw [List.length_append, hfl, hzl]; omega)
      · have hc : ∀ j u, (l.flatMap secC)[j]? = some u → w.cell? ((⟨B, 0, none⟩ : Addr).add j) = some u := fun j u hj => by
          have hj1 : j < l.length * 128 := by rw [← hfl]; exact (List.getElem?_eq_some_iff.1 hj).1
          rw [addr_add, Nat.zero_add, cell_of_row w B j cur _ (0, 0) h4]
          rw [← h8, List.getElem?_take_of_lt hj1] at hj
          simpa using hj
        have hold := run_firstCells_some (P := Tryd.prog) w.drew i.size l.length ⟨B, 0, none⟩ l.length c (l.flatMap secC) (by rw [hfl, hsz]) hc
        have hr := Lib.run_append_grow_zeros (P := Tryd.prog) w 25 3 ty 31 i (secVal []) .i64 .i64 secU intU hq hzz (some ⟨B, 0, none⟩) l.length c (l.flatMap secC) hold m (by omega) (by omega) (by omega) (by omega) (by rw [hby]; omega) (by
          refine growslice_fits (by omega) ?_
          rw [hby]; omega)
        have hge := grownCap_ge w (l.length + m) c 31
        have hle := grownCap_le_maxLen w (l.length + m) c 31 (by simp only [maxLen]; omega)
        refine ⟨_, _, hr, .inr ⟨w.heap.size, _, _, by rw [List.length_append, List.length_replicate], hbase, by rw [World.size_alloc]; show w.heap.size < w.heap.size + 1; omega, heap_alloc_new w.drew _, by rw [List.length_append, List.length_replicate]; exact hge, hle, ?_, ?_⟩, (Below.refl _ w).drew.alloc hbase _⟩
        · have hzs := sec_zero_size
          simp only [Array.size_append, List.size_toArray, hfl, size_zeroCells, hzs]
          omega
        · rw [Array.toList_append, Array.toList_append, zeros_secs, List.length_append, List.length_replicate, List.flatMap_append]
          exact List.take_left' (by rw [List.length_append, hfl, hzl]; omega)
section
variable {ops : Array Oper} {rest : List Oper} {o : Oper} {a : Act} {w : World} {Q : Exit → Act → World → Prop} {C : World → Prop} {K : Act → Prop}
theorem wpList_append_nils (hgd : o.guard = none) (s x : Operand) (ho : o.op = .call { callee := .builtin .append, args := #[s, x], argTypes := #[25, 3] }) (base top k c B : Nat) (l : List (List Int)) (m : Nat) (hs : a.eval s = .slice (some ⟨B, 0, none⟩) k c) (hx : a.eval x = .int .i64 m) (hv : OwnL 31 128 secC w base top (.slice (some ⟨B, 0, none⟩) k c) l) (hk : l.length + m ≤ 10000) (hbase : base ≤ w.heap.size)
    (h : ∀ v' w', OwnL 31 128 secC w' base w'.heap.size v' (l ++ List.replicate m []) → Below base w w' → wpList Tryd.prog ops Q rest (a.put o.dst v') w') : wpList Tryd.prog ops Q (o :: rest) a w := by
  obtain ⟨v', w', hrun, h1, h2⟩ := append_nils w o.type hv m hk hbase
  refine wpList_plain hgd fun K hK => ?_
  unfold Oper.wp execOp
  simp only [ho]
  simp [hs, hx, resolve, invoke, builtin, hrun, Result.andThen]
  exact hK _ _ (h v' w' h1 h2)
theorem gives_quo (x y : Operand) (ho : o.op = .binOp .quo 3 x y 3) (hy : a.eval y = .int .i64 128) (n q : Nat) (hq : n / 128 = q) (hn : n ≤ 1000000) (hx : a.eval x = .int .i64 n) (hk : K (a.put o.dst (.int .i64 q))) : ∃ v, Gives Tryd.prog C o a v ∧ K (a.put o.dst v) :=
  ⟨_, fun w _ => by
    have e1 : (n : Int).tdiv 128 = (q : Int) := by rw [Int.tdiv_eq_ediv_of_nonneg (by omega)]; omega
    have e2 : IntKind.i64.wrap (q : Int) = q := IntWalk.i64_in _ (by omega)
    have e3 : (n : Int) / 128 = (q : Int) := by omega
    unfold execOp
    simp only [ho, hx, hy]
    simp [go_sem, e1, e2], hk⟩
theorem gives_rem (x y : Operand) (ho : o.op = .binOp .rem 3 x y 3) (hy : a.eval y = .int .i64 128) (n q : Nat) (hq : n % 128 = q) (hn : n ≤ 1000000) (hx : a.eval x = .int .i64 n) (hk : K (a.put o.dst (.int .i64 q))) : ∃ v, Gives Tryd.prog C o a v ∧ K (a.put o.dst v) :=
  ⟨_, fun w _ => by
    have e1 : (n : Int).tmod 128 = (q : Int) := by rw [Int.tmod_eq_emod_of_nonneg (by omega)]; omega
    have e2 : IntKind.i64.wrap (q : Int) = q := IntWalk.i64_in _ (by omega)
    have e3 : (n : Int) % 128 = (q : Int) := by omega
    unfold execOp
    simp only [ho, hx, hy]
    simp [go_sem, e1], hk⟩
theorem gives_u64 (x : Operand) (ho : o.op = .convert 3 83 x) (z : Int) (V : Nat) (hV : IntKind.u64.wrap z = (V : Int)) (hx : a.eval x = .int .i64 z) (hk : K (a.put o.dst (.int .u64 V))) : ∃ v, Gives Tryd.prog C o a v ∧ K (a.put o.dst v) :=
  ⟨_, fun w _ => by
    unfold execOp
    simp only [ho, hx]
    simp [go_sem, hV], hk⟩
theorem gives_rem8 (x y : Operand) (ho : o.op = .binOp .rem 83 x y 83) (hy : a.eval y = .int .u64 8) (V e : Nat) (he : V % 8 = e) (hx : a.eval x = .int .u64 V) (hk : K (a.put o.dst (.int .u64 e))) : ∃ v, Gives Tryd.prog C o a v ∧ K (a.put o.dst v) :=
  ⟨_, fun w _ => by
    have e1 : (V : Int).tmod 8 = (e : Int) := by rw [Int.tmod_eq_emod_of_nonneg (by omega)]; omega
    have e2 : IntKind.u64.wrap (e : Int) = e := by rw [IntKind.wrap_u64]; omega
    have e3 : (V : Int) % 8 = (e : Int) := by omega
    unfold execOp
    simp only [ho, hx, hy]
    simp [go_sem, e1], hk⟩
theorem gives_shl (x y : Operand) (ho : o.op = .binOp .shl 5 x y 83) (hx : a.eval x = .int .u8 1) (e : Nat) (he : e < 8) (hy : a.eval y = .int .u64 e) (hk : K (a.put o.dst (.int .u8 ((2 ^ e : Nat) : Int)))) : ∃ v, Gives Tryd.prog C o a v ∧ K (a.put o.dst v) :=
  ⟨_, fun w _ => by
    unfold execOp
    simp only [ho, hx, hy]
    rcases e with _ | _ | _ | _ | _ | _ | _ | _ | e
    all_goals first | (exfalso; omega) | (simp [go_sem]; try decide), hk⟩
theorem gives_xor8 (x y : Operand) (ho : o.op = .binOp .xor 5 x y 5) (m n : Nat) (hm : m < 256) (hn : n < 256) (hx : a.eval x = .int .u8 m) (hy : a.eval y = .int .u8 n) (hk : K (a.put o.dst (.int .u8 ((m ^^^ n : Nat) : Int)))) : ∃ v, Gives Tryd.prog C o a v ∧ K (a.put o.dst v) :=
  ⟨_, fun w _ => by
    have e1 := bits_xor_u8 hm hn
    unfold execOp
    simp only [ho, hx, hy]
    simp [go_sem, e1], hk⟩
theorem gives_sec_byte (x y : Operand) (ho : o.op = .indexAddr 31 x y) (B off k : Nat) (hx : a.eval x = .pointer (some ⟨B, off, none⟩)) (hy : a.eval y = .int .i64 k) (hk1 : k < 128) (hk : K (a.put o.dst (.pointer (some ⟨B, off + k, none⟩)))) : ∃ v, Gives Tryd.prog C o a v ∧ K (a.put o.dst v) :=
  ⟨_, fun w _ => by
    have e0 : (0 : Int) ≤ k := by omega
    have e1 : (k : Int) < 128 := by omega
    have hs := byteElem.run_size (P := Tryd.prog) w
    unfold execOp
    simp only [ho, hx, hy]
    simp [go_sem, e0, e1, hs, addr_add], hk⟩
theorem gives_byte (x : Operand) (ho : o.op = .load 5 x) (p : Addr) (n : Nat) (hx : a.eval x = .pointer (some p)) (hc : ∀ w, C w → w.cell? p = some (.int .u8 n)) (hk : K (a.put o.dst (.int .u8 n))) : ∃ v, Gives Tryd.prog C o a v ∧ K (a.put o.dst v) :=
  gives_cell 5 x ho p (.int .u8 n) hx (fun w => by simp [go_sem]) hc hk
theorem run_storeVar_byte (w : World) (B off n : Nat) (ht : w.there B off 1) : (storeVar 5 ⟨B, off, none⟩ (.int .u8 n)).run Tryd.prog w = .ok () (w.setCells B off [.int .u8 n]) := by
  have := run_storeCells_cells (P := Tryd.prog) B off [.int .u8 n] 0 w (fun j hj => by simpa using (ht j (by simpa using hj)).1) (fun j hj => by simpa using (ht j (by simpa using hj)).2) (fun v hv => by simp at hv; subst hv; rfl)
  simp only [Nat.add_zero] at this
  have hi := byteInfo
  cases hq : Tryd.prog.info? 5 with
  | none => rw [hq] at hi; simp at hi
  | some i =>
    have hs : i.size = 1 := by simpa [hq] using hi
    simp [storeVar, sizeOf, typeInfo, hq, Value.cells, hs, this]
theorem done_store_byte {K : Value → World → Prop} (x y : Operand) (ho : o.op = .store 5 x y) (B off n : Nat) (hx : a.eval x = .pointer (some ⟨B, off, none⟩)) (hy : a.eval y = .int .u8 n) (ht : w.there B off 1) (h : K undef (w.setCells B off [.int .u8 n])) : doneAt Tryd.prog o a w K := by
  unfold doneAt execOp
  simp only [ho, hx, hy, Instr.storeAt, Instr.sureAddr, Sem.run_bind, Sem.run_pure, Result.andThen_ok, run_storeVar_byte w B off n ht]
  exact h
end
end Go.Proofs.YtdeojhcfbiekmaaDoor

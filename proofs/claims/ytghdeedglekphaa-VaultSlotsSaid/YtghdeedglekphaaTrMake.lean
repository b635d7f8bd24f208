/- TrMake: cut by mktr.py out of RdMake, RdBackL, RdCopyS: slices of tags that are made, grown by noughts, copied, cut. Conditions: as each says. -/
import Derived.Test.YtghdeedglekphaaTrText
import Derived.Lib.AppendZerosOnto
import Derived.Laws.IdiomCopy
namespace Go.Proofs.Ytghdeedglekphaa
open Go.ChangeShapes Go.WideShapes Go.ChangeAt Go.RowKit
set_option linter.unusedVariables false
theorem sumC_nil : sumC [] = List.replicate 32 (Value.int .u8 0) := by kernel_rfl
set_option maxRecDepth 100000 in
theorem flat_nils : ∀ k : Nat, (List.replicate k ([] : List Int)).flatMap sumC = List.replicate (k * 32) (Value.int .u8 0)
  | 0 => rfl
  | k + 1 => by rw [List.replicate_succ, List.flatMap_cons, flat_nils k, sumC_nil, List.replicate_append_replicate, Nat.succ_mul, Nat.add_comm]
set_option maxRecDepth 100000 in
theorem made_nils (n : Nat) : (madeCells (sumVal []).cells n).toList = List.replicate n (Value.int .u8 0) := by
  have hz : ∀ i, i < 32 → (sumVal []).cells[i]! = Value.int .u8 0 := fun i hi => by
    have hs : (sumVal []).cells.size = 32 := by show (cellsOf .u8 (mk 32 (natF []))).size = 32; rw [cellsOf_size, mk_len]
    have e : (sumVal []).cells[i]? = some (.int .u8 0) := by
      show (cellsOf .u8 (mk 32 (natF [])))[i]? = _
      rw [cellsOf_get .u8 _ (by rw [mk_len]; exact hi), mk_get hi]; rfl
    rw [getElem!_pos _ _ (by omega)]
    rw [Array.getElem?_eq_getElem (by omega)] at e
    exact Option.some.inj e
  have hsz : (sumVal []).cells.size = 32 := by show (cellsOf .u8 (mk 32 (natF []))).size = 32; rw [cellsOf_size, mk_len]
  apply List.ext_getElem
  · simp [madeCells]
  · intro j h1 h2
    simp only [madeCells, Array.toList_map, List.getElem_map, List.getElem_replicate]
    exact hz _ (Nat.lt_of_lt_of_eq (Nat.mod_lt _ (Nat.lt_of_lt_of_eq (by omega) hsz.symm)) hsz)
set_option maxRecDepth 100000 in
theorem run_make_nils (w : World) (k N base : Nat) (hk : k ≤ N) (hN : N ≤ 100000) (hb : base ≤ w.heap.size) : ∃ w', (Instr.makeSlice 42 (.int .i64 (k : Nat)) (.int .i64 (N : Nat))).run Try.prog w = .ok (.slice (some ⟨w.heap.size, 0, none⟩) k N) w' ∧
    OwnL 50 32 sumC w' base w'.heap.size (.slice (some ⟨w.heap.size, 0, none⟩) k N) (List.replicate k ([] : List Int)) ∧ Below w.heap.size w w' := by
  have hi := sumSz
  have hz := sumZro
  have hb' : (Try.prog.info? 50).map (·.bytes) = some 32 := by kernel_rfl
  cases hq : Try.prog.info? 50 with
  | none => rw [hq] at hi; simp at hi
  | some i =>
    rw [hq] at hi hz hb'
    have hs : i.size = 32 := by simpa using hi
    have hzz : i.zero = some (sumVal []) := by simpa using hz
    have hbb : i.bytes = 32 := by simpa using hb'
    have hrun := run_make (P := Try.prog) w 42 50 i (sumVal []) Try.underlying42 hq hzz .i64 .i64 (k : Nat) (N : Nat) (by omega) (by omega) (by rw [hbb]; omega) (by omega)
    rw [hs, Int.toNat_natCast, Int.toNat_natCast] at hrun
    refine ⟨_, hrun, .inr ⟨w.heap.size, N, _, by rw [List.length_replicate], hb, by simp, heap_alloc_new _ _, by rw [List.length_replicate]; exact hk, by unfold maxLen; omega, by simp [madeCells], ?_⟩, (Below.refl _ _).alloc (Nat.le_refl _) _⟩
    rw [List.length_replicate, made_nils, flat_nils, List.take_replicate, Nat.min_eq_left (Nat.mul_le_mul_right _ hk)]
section
variable {ops : Array Oper} {rest : List Oper} {o : Oper} {a : Act} {w : World} {Q : Exit → Act → World → Prop}
theorem wpList_make_nils (hgd : o.guard = none) (x y : Operand) (ho : o.op = .makeSlice 42 x y) (k N base : Nat) (hx : a.eval x = .int .i64 (k : Nat)) (hy : a.eval y = .int .i64 (N : Nat)) (hk : k ≤ N) (hN : N ≤ 100000) (hb : base ≤ w.heap.size)
    (h : ∀ w' : World, OwnL 50 32 sumC w' base w'.heap.size (.slice (some ⟨w.heap.size, 0, none⟩) k N) (List.replicate k ([] : List Int)) → Below w.heap.size w w' → wpList Try.prog ops Q rest (a.put o.dst (.slice (some ⟨w.heap.size, 0, none⟩) k N)) w') : wpList Try.prog ops Q (o :: rest) a w := by
  obtain ⟨w', hrun, h1, h2⟩ := run_make_nils w k N base hk hN hb
  refine wpList_plain hgd fun K hK => ?_
  unfold Oper.wp execOp
  simp only [ho]
  simp [hx, hy, hrun]
  exact hK _ _ (h w' h1 h2)
theorem done_make_nils {K : Value → World → Prop} (x y : Operand) (ho : o.op = .makeSlice 42 x y) (k N base : Nat) (hx : a.eval x = .int .i64 (k : Nat)) (hy : a.eval y = .int .i64 (N : Nat)) (hk : k ≤ N) (hN : N ≤ 100000) (hb : base ≤ w.heap.size)
    (h : ∀ w' : World, OwnL 50 32 sumC w' base w'.heap.size (.slice (some ⟨w.heap.size, 0, none⟩) k N) (List.replicate k ([] : List Int)) → Below w.heap.size w w' → K (.slice (some ⟨w.heap.size, 0, none⟩) k N) w') : doneAt Try.prog o a w K := by
  obtain ⟨w', hrun, h1, h2⟩ := run_make_nils w k N base hk hN hb
  unfold doneAt execOp
  simp only [ho]
  simp [hx, hy, hrun]
  exact h w' h1 h2
end
set_option maxRecDepth 100000 in
theorem zeros_sums (m : Nat) : (Builtin.zeroCells (sumVal []).cells m).toList = (List.replicate m ([] : List Int)).flatMap sumC := by
  have hsz : (sumVal []).cells.size = 32 := by show (cellsOf .u8 (mk 32 (natF []))).size = 32; rw [cellsOf_size, mk_len]
  show (madeCells (sumVal []).cells (m * (sumVal []).cells.size)).toList = _
  rw [made_nils, hsz, flat_nils]
theorem sum_zero_size : (sumVal []).cells.size = 32 := by show (cellsOf .u8 (mk 32 (natF []))).size = 32; rw [cellsOf_size, mk_len]
theorem append_nils {base top k c B : Nat} {l : List (List Int)} (w : World) (ty : TypeId) (hv : OwnL 50 32 sumC w base top (.slice (some ⟨B, 0, none⟩) k c) l) (m : Nat) (hk : l.length + m ≤ 4000000) (hbase : base ≤ w.heap.size) :
    ∃ v' w', (Builtin.append_ #[42, 3] ty #[.slice (some ⟨B, 0, none⟩) k c, .int .i64 m]).run Try.prog w = .ok v' w' ∧ OwnL 50 32 sumC w' base w'.heap.size v' (l ++ List.replicate m []) ∧ Below base w w' := by
  have hi := sumSz
  have hz := sumZro
  have hb : (Try.prog.info? 50).map (·.bytes) = some 32 := by kernel_rfl
  have intU : Try.prog.underlying 3 = some (.int .i64) := Try.underlying3
  have sumU : Try.prog.underlying 42 = some (.slice 50) := Try.underlying42
  have hw : IntKind.i64.wrap (m : Int) = m := IntWalk.i64_in _ (by omega)
  have hneg : ¬ ((m : Int) < 0) := by omega
  cases hq : Try.prog.info? 50 with
  | none => rw [hq] at hi; simp at hi
  | some i =>
    rw [hq] at hi hb hz
    have hsz : i.size = 32 := by simpa using hi
    have hzz : i.zero = some (sumVal []) := by simpa using hz
    have hby : i.bytes = 32 := by simpa using hb
    have h48i : ¬ (281474976710656 < (m : Int) * 32) := by omega
    have hv0 := hv
    rcases hv with ⟨he, _⟩ | ⟨B', c', cur, he, h2, h3, h4, h5, h6, h7, h8⟩
    · cases he
    cases he
    have hfl : (l.flatMap sumC).length = l.length * 32 := flatMap_len sumC_len l
    have hzl : ((List.replicate m ([] : List Int)).flatMap sumC).length = m * 32 := by rw [flatMap_len sumC_len, List.length_replicate]
    by_cases h0 : m = 0
    · subst h0
      have hw0 : IntKind.i64.wrap 0 = 0 := by decide
      refine ⟨_, w, ?_, by rw [List.replicate_zero, List.append_nil]; exact OwnL.of_owns (hv0.owns sumC_len), Below.refl _ _⟩
      simp [Builtin.append_, run_underlying sumU, run_underlying intU, sizeOf, typeInfo, hq, asInt, asIntOf, hw0, h5, storeCells]
    · have hns : ¬ (m * 32 = 0) := by omega
      by_cases hroom : l.length + m ≤ c
      · have hst := run_storeCells_at Try.prog B (l.length * 32) 50 ((List.replicate m ([] : List Int)).flatMap sumC) 0 cur w h4 (by rw [hzl, h7]; omega) (fun u hu => by
          obtain ⟨x, _, hx⟩ := List.mem_flatMap.1 hu
          exact sumC_one x u hx)
        simp only [Nat.add_zero] at hst
        rw [hzl] at hst
        have hrun : (Builtin.append_ #[42, 3] ty #[.slice (some ⟨B, 0, none⟩) l.length c, .int .i64 m]).run Try.prog w = .ok (.slice (some ⟨B, 0, none⟩) (l.length + m) c) (w.setRow B (cur.toList.take (l.length * 32) ++ (List.replicate m ([] : List Int)).flatMap sumC ++ cur.toList.drop (l.length * 32 + m * 32)).toArray) := by
          simp [Builtin.append_, run_underlying sumU, run_underlying intU, sizeOf, typeInfo, zeroValue, hq, hzz, hsz, hby, asInt, asIntOf, hw, hneg, h48i, hns, hroom, Addr.add_lit, zeros_sums, hst]
        refine ⟨_, _, hrun, .inr ⟨B, c, _, by rw [List.length_append, List.length_replicate], h2, ?_, setRow_heap w B cur _ 50 _ h4, by rw [List.length_append, List.length_replicate]; exact hroom, h6, ?_, ?_⟩, below_setRow (Below.refl _ _) h2 _⟩
        · have := (Array.getElem?_eq_some_iff.1 h4).1
          simpa [World.setRow] using this
        · simp only [List.size_toArray, List.length_append, List.length_take, List.length_drop, Array.length_toList, hzl]
          omega
        · rw [h8, List.length_append, List.length_replicate, List.flatMap_append]
          show List.take ((l.length + m) * 32) ((l.flatMap sumC ++ (List.replicate m ([] : List Int)).flatMap sumC) ++ _) = _
          exact List.take_left' (by rw [List.length_append, hfl, hzl]; omega)
      · have hc : ∀ j u, (l.flatMap sumC)[j]? = some u → w.cell? ((⟨B, 0, none⟩ : Addr).add j) = some u := fun j u hj => by
          have hj1 : j < l.length * 32 := by rw [← hfl]; exact (List.getElem?_eq_some_iff.1 hj).1
          rw [addr_add, Nat.zero_add, cell_of_row w B j cur _ (0, 0) h4]
          rw [← h8, List.getElem?_take_of_lt hj1] at hj
          simpa using hj
        have hold := run_firstCells_some (P := Try.prog) w.drew i.size l.length ⟨B, 0, none⟩ l.length c (l.flatMap sumC) (by rw [hfl, hsz]) hc
        have hr := Lib.run_append_grow_zeros (P := Try.prog) w 42 3 ty 50 i (sumVal []) .i64 .i64 sumU intU hq hzz (some ⟨B, 0, none⟩) l.length c (l.flatMap sumC) hold m (by omega) (by omega) (by omega) (by omega) (by rw [hby]; omega) (by
          refine growslice_fits (by omega) ?_
          rw [hby]; omega)
        have hge := grownCap_ge w (l.length + m) c 50
        have hle := grownCap_le_maxLen w (l.length + m) c 50 (by simp only [maxLen]; omega)
        refine ⟨_, _, hr, .inr ⟨w.heap.size, _, _, by rw [List.length_append, List.length_replicate], hbase, by rw [World.size_alloc]; show w.heap.size < w.heap.size + 1; omega, heap_alloc_new w.drew _, by rw [List.length_append, List.length_replicate]; exact hge, hle, ?_, ?_⟩, (Below.refl _ w).drew.alloc hbase _⟩
        · have hzs := sum_zero_size
          simp only [Array.size_append, List.size_toArray, hfl, size_zeroCells, hzs]
          omega
        · rw [Array.toList_append, Array.toList_append, zeros_sums, List.length_append, List.length_replicate, List.flatMap_append]
          exact List.take_left' (by rw [List.length_append, hfl, hzl]; omega)
section
variable {ops : Array Oper} {rest : List Oper} {o : Oper} {a : Act} {w : World} {Q : Exit → Act → World → Prop} {C : World → Prop} {K : Act → Prop}
theorem wpList_append_nils (hgd : o.guard = none) (s x : Operand) (ho : o.op = .call { callee := .builtin .append, args := #[s, x], argTypes := #[42, 3] }) (base top k c B : Nat) (l : List (List Int)) (m : Nat) (hs : a.eval s = .slice (some ⟨B, 0, none⟩) k c) (hx : a.eval x = .int .i64 m) (hv : OwnL 50 32 sumC w base top (.slice (some ⟨B, 0, none⟩) k c) l) (hk : l.length + m ≤ 4000000) (hbase : base ≤ w.heap.size)
    (h : ∀ v' w', OwnL 50 32 sumC w' base w'.heap.size v' (l ++ List.replicate m []) → Below base w w' → wpList Try.prog ops Q rest (a.put o.dst v') w') : wpList Try.prog ops Q (o :: rest) a w := by
  obtain ⟨v', w', hrun, h1, h2⟩ := append_nils w o.type hv m hk hbase
  refine wpList_plain hgd fun K hK => ?_
  unfold Oper.wp execOp
  simp only [ho]
  simp [hs, hx, resolve, invoke, builtin, hrun, Result.andThen]
  exact hK _ _ (h v' w' h1 h2)
end
theorem run_copy_wide {P : Program} (sz : Nat) (w : World) (dT sT ty elem : TypeId) (b o dLen dCap : Nat) (a : Addr) (sLen sCap : Nat) (cs : List Value)
    (hu : P.underlying dT = some (.slice elem)) (hs : (P.info? elem).map (·.size) = some sz) (hn : cs.length = Nat.min sLen dLen * sz)
    (hsrc : ∀ j v, cs[j]? = some v → w.cell? (a.add j) = some v) (ht : w.there b o cs.length) (h1 : ∀ v ∈ cs, v.oneCell' = true) :
    (Builtin.copy_ #[dT, sT] ty #[.slice (some ⟨b, o, none⟩) dLen dCap, .slice (some a) sLen sCap]).run P w = .ok (goInt (Nat.min sLen dLen)) (w.setCells b o cs) := by
  have hl := run_loadCells_list (P := P) w a cs hsrc
  have hst := run_storeCells_cells (P := P) b o cs 0 w (by simpa using fun j hj => (ht j hj).1) (by simpa using fun j hj => (ht j hj).2) h1
  cases hq : P.info? elem with
  | none => simp [hq] at hs
  | some i =>
    have hi : i.size = sz := by simpa [hq] using hs
    simp [Builtin.copy_, run_underlying hu, Builtin.lenOf, Builtin.firstCells, sizeOf, typeInfo, hq, hi, ← hn, hl, hst]
theorem sum_len1 (l : List (List Int)) : ∀ v ∈ l.flatMap sumC, v.oneCell' = true := fun v hv => by
  obtain ⟨s, _, hs⟩ := List.mem_flatMap.1 hv
  exact sumC_one s v hs
theorem rows_src {w : World} {B o : Nat} {m : List (List Int)} (h : RowsAt 32 sumC w (some ⟨B, o, none⟩) m) : ∀ j v, (m.flatMap sumC)[j]? = some v → w.cell? ((⟨B, o, none⟩ : Addr).add j) = some v := fun j v hv => by
  have hl : j < m.length * 32 := by rw [← flatMap_len sumC_len m]; exact (List.getElem?_eq_some_iff.1 hv).1
  have hi : j / 32 < m.length := by omega
  rcases h with rfl | ⟨B', o', e, hB, hr⟩
  · simp at hi
  cases e
  rw [addr_add]
  have e1 := flatMap_at sumC_len m (j / 32) (j % 32) m[j / 32] (List.getElem?_eq_getElem hi) (Nat.mod_lt _ (by decide))
  rw [show j / 32 * 32 + j % 32 = j by omega, hv] at e1
  have := hr (j / 32) m[j / 32] (List.getElem?_eq_getElem hi) (j % 32) v e1.symm
  rwa [show o + 32 * (j / 32) + j % 32 = o + j by omega] at this
theorem sumC_noughts : sumC [] = sumC nought := by
  have := nought_nil
  rw [sumVal_cells, sumVal_cells] at this
  simpa using this
theorem rows_noughts {w : World} {B : Nat} {l : List (List Int)} {k : Nat} (h : SumsB w B (l ++ List.replicate k [])) : SumsB w B (l ++ List.replicate k nought) := by
  refine ⟨h.own, fun i c hc => ?_⟩
  rcases Nat.lt_or_ge i l.length with hi | hi
  · rw [List.getElem?_append_left hi] at hc
    exact h.rows i c (by rw [List.getElem?_append_left hi]; exact hc)
  · rw [List.getElem?_append_right hi, List.getElem?_replicate] at hc
    split at hc
    · cases hc
      rw [← sumC_noughts]
      exact h.rows i [] (by rw [List.getElem?_append_right hi, List.getElem?_replicate, if_pos (by assumption)])
    · cases hc
section
variable {ops : Array Oper} {rest : List Oper} {o : Oper} {a : Act} {w : World} {Q : Exit → Act → World → Prop} {C : World → Prop} {K : Act → Prop}
theorem wpList_make_sums (hgd : o.guard = none) (x y : Operand) (ho : o.op = .makeSlice 42 x y) (k : Nat) (hx : a.eval x = .int .i64 (k : Nat)) (hy : a.eval y = .int .i64 (k : Nat)) (hk0 : k ≠ 0) (hN : k ≤ 100000)
    (h : ∀ w' : World, SumsB w' w.heap.size (List.replicate k nought) → Below w.heap.size w w' → wpList Try.prog ops Q rest (a.put o.dst (.slice (some ⟨w.heap.size, 0, none⟩) k k)) w') : wpList Try.prog ops Q (o :: rest) a w :=
  wpList_make_nils hgd x y ho k k w.heap.size hx hy (Nat.le_refl _) hN (Nat.le_refl _) fun w' h1 h2 => by
    refine h w' ?_ h2
    obtain ⟨j, rfl⟩ : ∃ j, k = j + 1 := ⟨k - 1, by omega⟩
    rw [List.replicate_succ] at h1
    obtain ⟨B, c, e, _, _, _, hB⟩ := h1.sums
    simp only [Value.slice.injEq, Option.some.injEq, Addr.mk.injEq] at e
    obtain ⟨⟨rfl, _⟩, _⟩ := e
    have := rows_noughts (l := []) (k := j + 1) (by rw [List.nil_append, List.replicate_succ]; exact hB)
    rwa [List.nil_append] at this
theorem run_sums_from (B n cap k : Nat) (hk : k ≤ n) (hn : n ≤ cap) (hne : cap ≠ k) (w : World) : (Instr.sliceAt 42 (.slice (some ⟨B, 0, none⟩) n cap) (some (.int .i64 k)) none none).run Try.prog w = .ok (.slice (some ⟨B, 32 * k, none⟩) (n - k) (cap - k)) w := by
  have hi := sumSz
  have e0 : (k : Int) ≤ n := by omega
  cases hq : Try.prog.info? 50 with
  | none => simp [hq] at hi
  | some i =>
    have hs : i.size = 32 := by simpa [hq] using hi
    simp [go_sem, Try.underlying42, sizeOf, typeInfo, hq, hs, addr_add, e0, hne, Nat.mul_comm, Program.elem]
theorem wpList_sums_from (hgd : o.guard = none) (x y : Operand) (ho : o.op = .slice 42 x (some y) none none) (B n cap k : Nat) (hx : a.eval x = .slice (some ⟨B, 0, none⟩) n cap) (hy : a.eval y = .int .i64 k) (hk : k ≤ n) (hn : n ≤ cap) (hne : cap ≠ k)
    (h : wpList Try.prog ops Q rest (a.put o.dst (.slice (some ⟨B, 32 * k, none⟩) (n - k) (cap - k))) w) : wpList Try.prog ops Q (o :: rest) a w :=
  wpList_plain hgd fun _ hK => by
    have e := run_sums_from B n cap k hk hn hne w
    unfold Oper.wp execOp
    simp only [ho]
    simp [hx, hy, e]
    exact hK _ _ h
theorem run_sums_upto (B n cap k : Nat) (hk : k ≤ cap) (w : World) : (Instr.sliceAt 42 (.slice (some ⟨B, 0, none⟩) n cap) none (some (.int .i64 k)) none).run Try.prog w = .ok (.slice (some ⟨B, 0, none⟩) k cap) w := by
  have hi := sumSz
  have e1 : (k : Int) ≤ cap := by omega
  cases hq : Try.prog.info? 50 with
  | none => simp [hq] at hi
  | some i =>
    have hs : i.size = 32 := by simpa [hq] using hi
    simp [go_sem, Try.underlying42, sizeOf, typeInfo, hq, hs, e1, Program.elem]
theorem wpList_sums_upto (hgd : o.guard = none) (x y : Operand) (ho : o.op = .slice 42 x none (some y) none) (B n cap k : Nat) (hx : a.eval x = .slice (some ⟨B, 0, none⟩) n cap) (hy : a.eval y = .int .i64 k) (hk : k ≤ cap)
    (h : wpList Try.prog ops Q rest (a.put o.dst (.slice (some ⟨B, 0, none⟩) k cap)) w) : wpList Try.prog ops Q (o :: rest) a w :=
  wpList_plain hgd fun _ hK => by
    have e := run_sums_upto B n cap k hk w
    unfold Oper.wp execOp
    simp only [ho]
    simp [hx, hy, e]
    exact hK _ _ h
/-- Tags copied over some of a list's. -/
theorem SumsB.over {B k : Nat} {l m : List (List Int)} (h : SumsB w B l) (hk : k + m.length ≤ l.length) : SumsB (w.setCells B (32 * k) (m.flatMap sumC)) B (l.take k ++ m ++ l.drop (k + m.length)) := by
  have hvl : (m.flatMap sumC).length = m.length * 32 := flatMap_len sumC_len m
  have ht : w.there B (32 * k) (m.length * 32) := fun j hj => by
    have := h.there (k := k + j / 32) (by omega) (j % 32) (Nat.mod_lt _ (by decide))
    rwa [show 32 * (k + j / 32) + j % 32 = 32 * k + j by omega] at this
  have same := World.rangeAt_setCells_same w B (32 * k) (m.flatMap sumC) (by rw [hvl]; exact ht)
  refine ⟨own_setCells B _ _ w h.own, fun i c hc j v hv => ?_⟩
  have hj : j < 32 := by rw [← sumC_len c]; exact (List.getElem?_eq_some_iff.1 hv).1
  have hlt : (l.take k).length = k := by rw [List.length_take]; omega
  have keep : l[i]? = some c → (i < k ∨ k + m.length ≤ i) → (w.setCells B (32 * k) (m.flatMap sumC)).cell? ⟨B, 32 * i + j, none⟩ = some v := fun e hi => by
    rw [World.cell?_setCells_out B _ (32 * k) w ⟨B, 32 * i + j, none⟩ (fun _ _ => by
      rcases hi with hi | hi
      · left; show 32 * i + j < 32 * k; omega
      · right; show 32 * k + (m.flatMap sumC).length ≤ 32 * i + j; rw [hvl]; omega)]
    exact h.rows i c e j v hv
  rw [List.append_assoc] at hc
  rcases Nat.lt_or_ge i k with hi | hi
  · rw [List.getElem?_append_left (by omega), List.getElem?_take_of_lt hi] at hc
    exact keep hc (.inl hi)
  rw [List.getElem?_append_right (by omega), hlt] at hc
  rcases Nat.lt_or_ge (i - k) m.length with hi2 | hi2
  · rw [List.getElem?_append_left hi2] at hc
    have e1 := flatMap_at sumC_len m (i - k) j c hc hj
    rw [hv] at e1
    have := same ((i - k) * 32 + j) v e1
    rwa [show 32 * k + ((i - k) * 32 + j) = 32 * i + j by omega] at this
  · rw [List.getElem?_append_right hi2, List.getElem?_drop, show k + m.length + (i - k - m.length) = i by omega] at hc
    exact keep hc (.inr (by omega))
theorem wpList_copy_sums (hgd : o.guard = none) (d s : Operand) (ho : o.op = .call { callee := .builtin .copy, args := #[d, s], argTypes := #[42, 42] }) (B k N dCap : Nat) (q : Option Addr) (n sCap : Nat) (l m : List (List Int)) (hd : a.eval d = .slice (some ⟨B, 32 * k, none⟩) N dCap) (hs : a.eval s = .slice q n sCap) (hn : n = m.length) (hN : n ≤ N) (h0 : n ≠ 0)
    (hm : RowsAt 32 sumC w q m) (hl : SumsB w B l) (hk : k + m.length ≤ l.length)
    (h : ∀ v w', SumsB w' B (l.take k ++ m ++ l.drop (k + m.length)) → But B w w' → w'.heap.size = w.heap.size → wpList Try.prog ops Q rest (a.put o.dst v) w') : wpList Try.prog ops Q (o :: rest) a w := by
  subst hn
  have hvl : (m.flatMap sumC).length = m.length * 32 := flatMap_len sumC_len m
  obtain ⟨Bs, os, rfl⟩ : ∃ Bs os, q = some ⟨Bs, os, none⟩ := by
    rcases hm with rfl | ⟨B', o', e, _⟩
    · exact absurd rfl h0
    · exact ⟨B', o', e⟩
  have ht : w.there B (32 * k) (m.length * 32) := fun j hj => by
    have := hl.there (k := k + j / 32) (by omega) (j % 32) (Nat.mod_lt _ (by decide))
    rwa [show 32 * (k + j / 32) + j % 32 = 32 * k + j by omega] at this
  have hrun := run_copy_wide (P := Try.prog) 32 w 42 42 o.type 50 B (32 * k) N dCap ⟨Bs, os, none⟩ m.length sCap (m.flatMap sumC) Try.underlying42 sumSz (by rw [hvl]; congr 1; exact (Nat.min_eq_left hN).symm) (rows_src hm) (by rw [hvl]; exact ht) (sum_len1 m)
  refine wpList_plain hgd fun K hK => ?_
  unfold Oper.wp
  simp [execOp, ho, resolve, invoke, builtin, hd, hs, hrun, Result.andThen]
  exact hK _ _ (h _ _ (hl.over hk) (but_setCells B _ _ w) (size_setCells B _ _ w))
end
end Go.Proofs.Ytghdeedglekphaa

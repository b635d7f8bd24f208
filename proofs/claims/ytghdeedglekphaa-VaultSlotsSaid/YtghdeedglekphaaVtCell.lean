/- Blocks that hold any cells: made, kept, written in part; heads and sectors as values and in blocks. Conditions: as each says. -/
import Derived.Test.YtghdeedglekphaaTrText
import Derived.Test.YtghdeedglekphaaTrMake
import Derived.Test.YtghdeedglekphaaVtNum
import Derived.Test.YtghdeedglekphaaRdWords
namespace Go.Proofs.Ytghdeedglekphaa
open Go.ChangeShapes Go.WideShapes Go.ChangeAt Go.RowKit
set_option linter.unusedVariables false
/-- Block B holds these cells, and may be written. -/
structure CellB (w : World) (B : Nat) (cs : List Value) : Prop where
  own : ∃ cur e, w.heap[B]? = some (.cells cur e (0, 0))
  row : w.rangeAt B 0 cs
section
variable {w w' : World} {B : Nat} {cs : List Value}
theorem CellB.lt (h : CellB w B cs) : B < w.heap.size := by
  obtain ⟨cur, e, h⟩ := h.own
  exact (Array.getElem?_eq_some_iff.1 h).1
theorem CellB.keep (h : CellB w B cs) (hb : w'.heap[B]? = w.heap[B]?) : CellB w' B cs := by
  obtain ⟨cur, e, ho⟩ := h.own
  refine ⟨⟨cur, e, hb.trans ho⟩, fun j v hv => ?_⟩
  rw [World.cell?_of_block (w := w) (w' := w') (a := ⟨B, 0 + j, none⟩) hb]
  exact h.row j v hv
theorem CellB.below (h : CellB w B cs) (hb : Below w.heap.size w w') : CellB w' B cs := h.keep (hb.block B h.lt)
theorem CellB.belowM {M : Nat} (h : CellB w B cs) (hb : Below M w w') (hM : B < M) : CellB w' B cs := h.keep (hb.block B hM)
theorem CellB.but {C : Nat} (h : CellB w B cs) (hb : But C w w') (hne : B ≠ C) : CellB w' B cs := h.keep (hb.same B h.lt hne)
theorem CellB.part (h : CellB w B cs) {off : Nat} {ds : List Value} (hd : ∀ j v, ds[j]? = some v → cs[off + j]? = some v) : w.rangeAt B off ds := fun j v hv => by
  have := h.row (off + j) v (hd j v hv)
  rwa [Nat.zero_add] at this
theorem CellB.cell (h : CellB w B cs) {k : Nat} {v : Value} (hk : cs[k]? = some v) : w.cell? ⟨B, k, none⟩ = some v := by
  have := h.row k v hk
  rwa [Nat.zero_add] at this
theorem CellB.there (h : CellB w B cs) {off n : Nat} (hn : off + n ≤ cs.length) : w.there B off n := fun j hj => by
  obtain ⟨cur, e, ho⟩ := h.own
  refine ⟨?_, frozen_of_row w B _ cur e ho⟩
  have := h.row (off + j) _ (List.getElem?_eq_getElem (show off + j < cs.length by omega))
  rw [Nat.zero_add] at this
  rw [this]; rfl
theorem CellB.over (h : CellB w B cs) {off : Nat} {vs ds : List Value} (hn : off + vs.length ≤ cs.length) (hd : ∀ j v, ds[j]? = some v → (off ≤ j ∧ j < off + vs.length → vs[j - off]? = some v) ∧ (j < off ∨ off + vs.length ≤ j → cs[j]? = some v)) : CellB (w.setCells B off vs) B ds := by
  refine ⟨own_setCells B _ _ w h.own, fun j v hv => ?_⟩
  obtain ⟨h1, h2⟩ := hd j v hv
  rw [Nat.zero_add]
  by_cases hj : off ≤ j ∧ j < off + vs.length
  · have := World.rangeAt_setCells_same w B off vs (h.there hn) (j - off) v (h1 hj)
    rwa [show off + (j - off) = j by omega] at this
  · have hs : w.rangeAt B j [v] := fun i u hu => by
      obtain rfl : i = 0 := by have := (List.getElem?_eq_some_iff.1 hu).1; simpa using this
      cases hu
      exact h.cell (h2 (by omega))
    have := World.rangeAt_setCells_apart hs B off vs (.inr (by simp only [List.length_cons, List.length_nil]; omega)) 0 v rfl
    exact this
theorem CellB.new (w : World) (cs : List Value) (e : TypeId) : CellB (w.alloc (.cells cs.toArray e)) w.heap.size cs := by
  refine ⟨⟨_, e, heap_alloc_new _ _⟩, fun j v hv => ?_⟩
  rw [Nat.zero_add]
  have := cell_of_row (w.alloc (.cells cs.toArray e)) w.heap.size j cs.toArray e (0, 0) (heap_alloc_new _ _)
  rw [this]; simpa using hv
end
/-- Bytes as cells. -/
def bytC (n : Nat) (f : Nat → Nat) : List Value := (cellsOf .u8 (mk n f)).toList
theorem bytC_len (n : Nat) (f : Nat → Nat) : (bytC n f).length = n := by unfold bytC; rw [Array.length_toList, cellsOf_size, mk_len]
theorem bytC_get {n : Nat} (f : Nat → Nat) {j : Nat} (h : j < n) : (bytC n f)[j]? = some (.int .u8 (f j : Nat)) := by
  unfold bytC
  rw [Array.getElem?_toList, cellsOf_get .u8 _ (by rw [mk_len]; exact h), mk_get h]
theorem bytC_is {n : Nat} {f : Nat → Nat} {j : Nat} {v : Value} (h : (bytC n f)[j]? = some v) : j < n ∧ v = .int .u8 (f j : Nat) := by
  have hj : j < n := by have := (List.getElem?_eq_some_iff.1 h).1; rwa [bytC_len] at this
  rw [bytC_get f hj] at h
  cases h; exact ⟨hj, rfl⟩
theorem bytC_one (n : Nat) (f : Nat → Nat) : ∀ u ∈ bytC n f, u.oneCell' = true := fun u hu => (Array.all_eq_true_iff_forall_mem.1 (cellsOf_one .u8 (mk n f))) u (by simpa [bytC] using hu)
theorem bytC_arr (n : Nat) (f : Nat → Nat) : (bytC n f).toArray = cellsOf .u8 (mk n f) := by unfold bytC; simp
theorem bytC_ext {n : Nat} {f g : Nat → Nat} (h : ∀ j, j < n → f j = g j) : bytC n f = bytC n g := by unfold bytC; rw [mk_ext h]
theorem bytes_of_range {w : World} {B off n : Nat} {f : Nat → Nat} (h : w.rangeAt B off (bytC n f)) (hB : B < w.heap.size) : BytesAt w (some ⟨B, off, none⟩) n f := .inr ⟨B, off, rfl, hB, fun i hi => h i _ (bytC_get f hi)⟩
/-! ### Sectors -/
def secVal (s : List Int) : Value := .agg (cellsOf .u8 (mk 128 (natF s)))
def secC (s : List Int) : List Value := bytC 128 (natF s)
theorem secC_len (s : List Int) : (secC s).length = 128 := bytC_len _ _
theorem secVal_cells (s : List Int) : secVal s = .agg (secC s).toArray := by unfold secVal secC; rw [bytC_arr]
def noSec : List Int := mk 128 zeroK
theorem noSec_sec : IsSec noSec := isSec_mk fun _ _ => by unfold zeroK; omega
theorem secVal_no : secVal noSec = .agg (cellsOf .u8 (mk 128 zeroK)) := by unfold secVal noSec; rw [show mk 128 (natF (mk 128 zeroK)) = mk 128 zeroK from mk_ext fun j hj => natF_mk hj]
theorem secInfo : (Try.prog.info? 24).map (·.size) = some 128 := by kernel_rfl
theorem secUnd : Try.prog.underlying 24 = some (.array 128 5) := Try.underlying24
theorem cellZero_run (W : World) : (zeroValue 24).run Try.prog W = .ok (.agg (secC noSec).toArray) W := by
  have h : (Try.prog.info? 24).bind (·.zero) = some (.agg (secC noSec).toArray) := by kernel_rfl
  cases hq : Try.prog.info? 24 with
  | none => rw [hq] at h; simp at h
  | some i =>
    rw [hq] at h
    simp only [Option.bind_some] at h
    simp [zeroValue, typeInfo, hq, h]
def sameS (c d : List Int) : Bool := mk 128 (natF c) == mk 128 (natF d)
theorem sameS_iff {c d : List Int} (hc : IsSec c) (hd : IsSec d) : sameS c d = true ↔ c = d := by unfold sameS; rw [hc.mk', hd.mk']; simp
section
variable {ops : Array Oper} {rest : List Oper} {o : Oper} {a : Act} {w : World} {Q : Exit → Act → World → Prop} {C : World → Prop} {K : Act → Prop}
theorem wpList_cell_alloc (hw : Region.wanted o (yielded ops a.tmps) = true) (ho : o.op = .alloc 24) (S : Nat) (hS : w.heap.size = S)
    (h : ∀ w', CellB w' S (secC noSec) → Below S w w' → w'.heap.size = S + 1 → wpList Try.prog ops Q rest (a.put o.dst (.pointer (some ⟨S, 0, none⟩))) w') : wpList Try.prog ops Q (o :: rest) a w :=
  wanted_step hw fun K hK => by
    subst hS
    have e := cellZero_run w
    unfold Oper.wp execOp
    simp only [ho]
    simp [go_sem, e]
    exact hK _ _ (h _ (CellB.new w _ _) ((Below.refl _ _).alloc (Nat.le_refl _) _) (by simp))
theorem wpList_cell_boxed (hgd : o.guard = none) (x : Operand) (ho : o.op = .box 24 x) (s : List Int) (hx : a.eval x = secVal s) (S : Nat) (hS : w.heap.size = S)
    (h : ∀ w', CellB w' S (secC s) → Below S w w' → w'.heap.size = S + 1 → wpList Try.prog ops Q rest (a.put o.dst (.pointer (some ⟨S, 0, none⟩))) w') : wpList Try.prog ops Q (o :: rest) a w :=
  wpList_plain hgd fun K hK => by
    subst hS
    have hx2 := hx.trans (secVal_cells s)
    unfold Oper.wp execOp
    simp only [ho, hx2]
    simp [go_sem]
    exact hK _ _ (h _ (CellB.new w _ _) ((Below.refl _ _).alloc (Nat.le_refl _) _) (by simp))
theorem exec_cell_store (x y : Operand) (ho : o.op = .store 24 x y) (B : Nat) (hx : a.eval x = .pointer (some ⟨B, 0, none⟩)) (s : List Int) (hy : a.eval y = secVal s) (s0 : List Int) (hl : CellB w B (secC s0)) :
    (execOp a.eval o).run Try.prog w = .ok .skip (w.setCells B 0 (secC s)) := by
  have hy2 := hy.trans (secVal_cells s)
  unfold execOp
  simp only [ho, hx, hy2]
  rw [Sem.run_bind, run_storeAt_mid w B 0 24 (secC s).toArray (by rw [List.size_toArray, secC_len]; exact hl.there (by rw [secC_len]; omega)) (by rw [List.size_toArray, secC_len]; exact secInfo) (all_oneCell_toArray (bytC_one _ _))]
  rfl
theorem cell_over {B : Nat} {s s0 : List Int} (h : CellB w B (secC s0)) : CellB (w.setCells B 0 (secC s)) B (secC s) := h.over (by rw [secC_len, secC_len]; omega) fun j v hv => ⟨fun _ => hv, fun hj => by
  have := (List.getElem?_eq_some_iff.1 hv).1
  rw [secC_len] at this hj; omega⟩
theorem wpList_cell_store (hgd : o.guard = none) (x y : Operand) (ho : o.op = .store 24 x y) (hd : o.dst = none) (B : Nat) (hx : a.eval x = .pointer (some ⟨B, 0, none⟩)) (s : List Int) (hy : a.eval y = secVal s) (s0 : List Int) (hl : CellB w B (secC s0))
    (h : ∀ w', CellB w' B (secC s) → But B w w' → w'.heap.size = w.heap.size → wpList Try.prog ops Q rest a w') : wpList Try.prog ops Q (o :: rest) a w :=
  wpList_plain hgd fun K hK => by
    have e := exec_cell_store x y ho B hx s hy s0 hl
    unfold Oper.wp
    rw [e]
    show K (a.put o.dst undef) _
    rw [hd]
    exact hK _ _ (h _ (cell_over hl) (but_setCells B _ _ w) (size_setCells B _ _ w))
theorem exec_cell_load (x : Operand) (ho : o.op = .load 24 x) (B off : Nat) (hx : a.eval x = .pointer (some ⟨B, off, none⟩)) (s : List Int) (hc : w.rangeAt B off (secC s)) : (execOp a.eval o).run Try.prog w = .ok (.value (secVal s)) w := by
  have e := run_loadVar_mid w B off 24 (secC s) _ hc secUnd rfl (by rw [secC_len]; exact secInfo)
  rw [secVal_cells]
  unfold execOp
  simp only [ho, hx, Instr.loadAt, Instr.sureAddr, Sem.run_bind, Sem.run_pure, Result.andThen_ok, e]
theorem wpList_cell_load (hw : Region.wanted o (yielded ops a.tmps) = true) (x : Operand) (ho : o.op = .load 24 x) (B off : Nat) (hx : a.eval x = .pointer (some ⟨B, off, none⟩)) (s : List Int) (hc : w.rangeAt B off (secC s)) (h : wpList Try.prog ops Q rest (a.put o.dst (secVal s)) w) : wpList Try.prog ops Q (o :: rest) a w :=
  wanted_step hw fun K hK => by
    unfold Oper.wp
    rw [exec_cell_load x ho B off hx s hc]
    exact hK _ _ h
theorem gives_cell_load (x : Operand) (ho : o.op = .load 24 x) (B off : Nat) (hx : a.eval x = .pointer (some ⟨B, off, none⟩)) (s : List Int) (hc : ∀ w, C w → w.rangeAt B off (secC s)) (hk : K (a.put o.dst (secVal s))) : ∃ v, Gives Try.prog C o a v ∧ K (a.put o.dst v) :=
  ⟨_, fun w hw => exec_cell_load x ho B off hx s (hc w hw), hk⟩
theorem exec_cell_eq (op : BinOp) (b : Bool) (hop : (op = .eql ∧ b = false) ∨ (op = .neq ∧ b = true)) (x y : Operand) (ho : o.op = .binOp op 24 x y 24) (c d : List Int) (hx : a.eval x = secVal c) (hy : a.eval y = secVal d) : (execOp a.eval o).run Try.prog w = .ok (.value (.bool (xor b (sameS c d)))) w := by
  have p : (Op.equalIn 10000 24 (.agg (cellsOf .u8 (mk 128 (natF c)))) (.agg (cellsOf .u8 (mk 128 (natF d))))).run Try.prog w = .ok (sameS c d) w :=
    run_equalIn_ints w 9998 (mk 128 (natF c)) (mk 128 (natF d)) (by rw [mk_len]; exact secUnd) byteElem (by rw [mk_len, mk_len])
  unfold secVal at hx hy
  have g := run_eqGuard_agg (P := Try.prog) w op 24 x y (cellsOf .u8 (mk 128 (natF c))) (cellsOf .u8 (mk 128 (natF d))) (by kernel_rfl)
  rcases hop with ⟨rfl, rfl⟩ | ⟨rfl, rfl⟩
  · have q := run_eql_struct (P := Try.prog) w 24 (cellsOf .u8 (mk 128 (natF c))) (cellsOf .u8 (mk 128 (natF d)))
    rw [p] at q
    unfold execOp
    simp only [ho, hx, hy, Sem.run_bind, g, q, Result.andThen_ok, Sem.run_pure]
    try simp
  · have q := run_neq_struct (P := Try.prog) w 24 (cellsOf .u8 (mk 128 (natF c))) (cellsOf .u8 (mk 128 (natF d)))
    rw [p] at q
    unfold execOp
    simp only [ho, hx, hy, Sem.run_bind, g, q, Result.andThen_ok, Sem.run_pure]
    try simp
theorem wpList_cell_neq (hw : Region.wanted o (yielded ops a.tmps) = true) (x y : Operand) (ho : o.op = .binOp .neq 24 x y 24) (c d : List Int) (hx : a.eval x = secVal c) (hy : a.eval y = secVal d) (v : Bool) (hv : (!sameS c d) = v) (h : wpList Try.prog ops Q rest (a.put o.dst (.bool v)) w) : wpList Try.prog ops Q (o :: rest) a w :=
  wanted_step hw fun K hK => by
    subst hv
    have e := exec_cell_eq (w := w) .neq true (.inr ⟨rfl, rfl⟩) x y ho c d hx hy
    rw [Bool.true_xor] at e
    unfold Oper.wp
    rw [e]
    exact hK _ _ h
theorem wpList_cell_eql (hw : Region.wanted o (yielded ops a.tmps) = true) (x y : Operand) (ho : o.op = .binOp .eql 24 x y 24) (c d : List Int) (hx : a.eval x = secVal c) (hy : a.eval y = secVal d) (v : Bool) (hv : sameS c d = v) (h : wpList Try.prog ops Q rest (a.put o.dst (.bool v)) w) : wpList Try.prog ops Q (o :: rest) a w :=
  wanted_step hw fun K hK => by
    subst hv
    have e := exec_cell_eq (w := w) .eql false (.inl ⟨rfl, rfl⟩) x y ho c d hx hy
    rw [Bool.false_xor] at e
    unfold Oper.wp
    rw [e]
    exact hK _ _ h
theorem gives_cell_neq (x y : Operand) (ho : o.op = .binOp .neq 24 x y 24) (c d : List Int) (hx : a.eval x = secVal c) (hy : a.eval y = secVal d) (v : Bool) (hv : (!sameS c d) = v) (hk : K (a.put o.dst (.bool v))) : ∃ v, Gives Try.prog C o a v ∧ K (a.put o.dst v) :=
  ⟨_, fun w _ => by
    subst hv
    have e := exec_cell_eq (w := w) .neq true (.inr ⟨rfl, rfl⟩) x y ho c d hx hy
    rwa [Bool.true_xor] at e, hk⟩
theorem cell_built0 : Try.prog.built 24 [] = some (cellsOf .u8 (mk 128 zeroK)) := by kernel_rfl
theorem wpList_cell_build0 (hw : Region.wanted o (yielded ops a.tmps) = true) (ho : o.op = .build 24 #[])
    (h : wpList Try.prog ops Q rest (a.put o.dst (secVal noSec)) w) : wpList Try.prog ops Q (o :: rest) a w :=
  wanted_step hw fun K hK => by
    have e := run_build w 24 #[] _ cell_built0
    rw [secVal_no] at h
    unfold Oper.wp execOp
    simp only [ho]
    simp [e]
    exact hK _ _ h
/-- Bytes copied to some place of a block, as many as there is room for. -/
theorem wpList_copy_cells (hgd : o.guard = none) (d s : Operand) (ho : o.op = .call { callee := .builtin .copy, args := #[d, s], argTypes := #[22, 22] }) (B off dLen dCap : Nat) (hd : a.eval d = .slice (some ⟨B, off, none⟩) dLen dCap) (C' o' n cap : Nat) (hs : a.eval s = .slice (some ⟨C', o', none⟩) n cap) (m : Nat) (hm : Nat.min n dLen = m) (g : Nat → Nat) (hc : ∀ i, i < m → w.cell? ⟨C', o' + i, none⟩ = some (.int .u8 (g i : Nat))) (ht : w.there B off m)
    (h : wpList Try.prog ops Q rest (a.put o.dst (.int .i64 m)) (w.setCells B off (bytC m g))) : wpList Try.prog ops Q (o :: rest) a w :=
  wpList_plain hgd fun K hK => by
    have e := fun ty => run_copy_wide (P := Try.prog) 1 w 22 22 ty 5 B off dLen dCap ⟨C', o', none⟩ n cap (bytC m g) Try.underlying22 byteElem.size (by rw [bytC_len, hm, Nat.mul_one]) (fun j v hv => by
      obtain ⟨hj, rfl⟩ := bytC_is hv
      rw [add_plain]; exact hc j hj) (by rw [bytC_len]; exact ht) (bytC_one _ _)
    rw [hm] at e
    unfold Oper.wp
    simp [execOp, ho, resolve, invoke, builtin, hd, hs, e, Result.andThen]
    exact hK _ _ h
end
end Go.Proofs.Ytghdeedglekphaa

/- Sectors and tags as one row of bytes: slices of them made, their places, their parts, bytes copied between them. Conditions: as each says. -/
import Derived.Test.YtghdeedglekphaaVtCell
import Derived.Test.YtghdeedglekphaaTrSame
namespace Go.Proofs.Ytghdeedglekphaa
open Go.ChangeShapes Go.WideShapes Go.ChangeAt Go.RowKit
set_option linter.unusedVariables false
/-- A row of bytes whose first k are laid. -/
def fTo (k : Nat) (g : Nat → Nat) : Nat → Nat := fun j => if j < k then g j else 0
theorem bytC_zero (n : Nat) (g : Nat → Nat) : bytC n (fTo 0 g) = bytC n zeroK := bytC_ext fun j hj => by unfold fTo zeroK; rw [if_neg (by omega)]
theorem bytC_all (n : Nat) (g : Nat → Nat) : bytC n (fTo n g) = bytC n g := bytC_ext fun j hj => by unfold fTo; rw [if_pos hj]
theorem bytC_over {w : World} {B n k m : Nat} {g : Nat → Nat} (h : CellB w B (bytC n (fTo k g))) (hn : k + m ≤ n) : CellB (w.setCells B k (bytC m fun j => g (k + j))) B (bytC n (fTo (k + m) g)) := by
  refine h.over (by rw [bytC_len, bytC_len]; exact hn) fun j v hv => ?_
  obtain ⟨hj, rfl⟩ := bytC_is hv
  rw [bytC_len]
  refine ⟨fun hh => ?_, fun hh => ?_⟩
  · rw [bytC_get _ (show j - k < m by omega)]
    unfold fTo
    rw [if_pos (by omega), show k + (j - k) = j by omega]
  · rw [bytC_get _ hj]
    have : fTo k g j = fTo (k + m) g j := by
      unfold fTo
      by_cases hl : j < k
      · rw [if_pos hl, if_pos (by omega)]
      · rw [if_neg hl, if_neg (by omega)]
    rw [this]
theorem bytC_zeros (n : Nat) : bytC n zeroK = List.replicate n (.int .u8 0) := by
  apply List.ext_getElem?
  intro i
  by_cases hi : i < n
  · rw [bytC_get _ hi, List.getElem?_replicate, if_pos hi]; rfl
  · rw [List.getElem?_eq_none (by rw [bytC_len]; omega), List.getElem?_eq_none (by simp; omega)]
theorem made_zeros (vs : Array Value) (hp : 0 < vs.size) (hz : ∀ i, i < vs.size → vs[i]! = .int .u8 0) (n : Nat) : (madeCells vs n) = (bytC n zeroK).toArray := by
  apply Array.ext'
  rw [bytC_zeros]
  show (madeCells vs n).toList = List.replicate n (Value.int .u8 0)
  apply List.ext_getElem
  · simp [madeCells]
  · intro j h1 h2
    simp only [madeCells, Array.toList_map, List.getElem_map, List.getElem_replicate]
    exact hz _ (Nat.mod_lt _ hp)
theorem bytC_bang {n : Nat} (f : Nat → Nat) {i : Nat} (hi : i < n) : (bytC n f).toArray[i]! = .int .u8 (f i : Nat) := by
  have e := bytC_get f hi
  rw [getElem!_pos _ _ (by rw [List.size_toArray, bytC_len]; exact hi)]
  rw [List.getElem_toArray]
  exact (List.getElem?_eq_some_iff.1 e).2
theorem run_make_rows (ty e : TypeId) (s by' : Nat) (hu : Try.prog.underlying ty = some (.slice e)) (hi : (Try.prog.info? e).map (·.size) = some s) (hz : (Try.prog.info? e).bind (·.zero) = some (.agg (bytC s zeroK).toArray)) (hb : (Try.prog.info? e).map (·.bytes) = some by') (hs : 0 < s) (hby : by' ≤ 1000) (k : Nat) (hk : k ≤ 100000) (w : World) :
    ∃ w', (Instr.makeSlice ty (.int .i64 (k : Nat)) (.int .i64 (k : Nat))).run Try.prog w = .ok (.slice (some ⟨w.heap.size, 0, none⟩) k k) w' ∧ CellB w' w.heap.size (bytC (k * s) zeroK) ∧ Below w.heap.size w w' := by
  cases hq : Try.prog.info? e with
  | none => rw [hq] at hi; simp at hi
  | some i =>
    rw [hq] at hi hz hb
    have hss : i.size = s := by simpa using hi
    have hzz : i.zero = some (.agg (bytC s zeroK).toArray) := by simpa using hz
    have hbb : i.bytes = by' := by simpa using hb
    have hrun := run_make (P := Try.prog) w ty e i (.agg (bytC s zeroK).toArray) hu hq hzz .i64 .i64 (k : Nat) (k : Nat) (by omega) (by omega) (by rw [hbb]; have h1 : by' * k ≤ 1000 * 100000 := Nat.mul_le_mul hby hk; have h2 : ((by' * k : Nat) : Int) ≤ 100000000 := (by omega); rw [Int.natCast_mul] at h2; omega) (by omega)
    rw [hss, Int.toNat_natCast] at hrun
    have hm : madeCells (Value.agg (bytC s zeroK).toArray).cells (k * s) = (bytC (k * s) zeroK).toArray :=
      made_zeros _ (by show 0 < (bytC s zeroK).toArray.size; rw [List.size_toArray, bytC_len]; exact hs) (fun i hi => by
        have hi2 : i < s := by
          have : i < (bytC s zeroK).toArray.size := hi
          rwa [List.size_toArray, bytC_len] at this
        show (bytC s zeroK).toArray[i]! = _
        rw [bytC_bang _ hi2]; rfl) _
    rw [hm] at hrun
    exact ⟨_, hrun, CellB.new w _ _, (Below.refl _ _).alloc (Nat.le_refl _) _⟩
theorem cells_info : (Try.prog.info? 24).bind (·.zero) = some (.agg (bytC 128 zeroK).toArray) := by kernel_rfl
theorem sums_info : (Try.prog.info? 50).bind (·.zero) = some (.agg (bytC 32 zeroK).toArray) := by kernel_rfl
theorem cells_bytes : (Try.prog.info? 24).map (·.bytes) = some 128 := by kernel_rfl
theorem sums_bytes : (Try.prog.info? 50).map (·.bytes) = some 32 := by kernel_rfl
section
variable {ops : Array Oper} {rest : List Oper} {o : Oper} {a : Act} {w : World} {Q : Exit → Act → World → Prop} {C : World → Prop} {K : Act → Prop}
theorem wpList_make_cells (hgd : o.guard = none) (x y : Operand) (ho : o.op = .makeSlice 44 x y) (k : Nat) (hx : a.eval x = .int .i64 (k : Nat)) (hy : a.eval y = .int .i64 (k : Nat)) (hk : k ≤ 100000)
    (h : ∀ w' : World, CellB w' w.heap.size (bytC (k * 128) zeroK) → Below w.heap.size w w' → wpList Try.prog ops Q rest (a.put o.dst (.slice (some ⟨w.heap.size, 0, none⟩) k k)) w') : wpList Try.prog ops Q (o :: rest) a w := by
  obtain ⟨w', hrun, h1, h2⟩ := run_make_rows 44 24 128 128 Try.underlying44 secInfo cells_info cells_bytes (by decide) (by decide) k hk w
  refine wpList_plain hgd fun K hK => ?_
  unfold Oper.wp execOp
  simp only [ho]
  simp [hx, hy, hrun]
  exact hK _ _ (h w' h1 h2)
theorem wpList_make_tags (hgd : o.guard = none) (x y : Operand) (ho : o.op = .makeSlice 42 x y) (k : Nat) (hx : a.eval x = .int .i64 (k : Nat)) (hy : a.eval y = .int .i64 (k : Nat)) (hk : k ≤ 100000)
    (h : ∀ w' : World, CellB w' w.heap.size (bytC (k * 32) zeroK) → Below w.heap.size w w' → wpList Try.prog ops Q rest (a.put o.dst (.slice (some ⟨w.heap.size, 0, none⟩) k k)) w') : wpList Try.prog ops Q (o :: rest) a w := by
  obtain ⟨w', hrun, h1, h2⟩ := run_make_rows 42 50 32 32 Try.underlying42 sumSz sums_info sums_bytes (by decide) (by decide) k hk w
  refine wpList_plain hgd fun K hK => ?_
  unfold Oper.wp execOp
  simp only [ho]
  simp [hx, hy, hrun]
  exact hK _ _ (h w' h1 h2)
theorem cell_addr (x y : Operand) (ho : o.op = .indexAddr 44 x y) (B off n cap k : Nat) (hx : a.eval x = .slice (some ⟨B, off, none⟩) n cap) (hy : a.eval y = .int .i64 k) (hk : k < n) (w : World) : (execOp a.eval o).run Try.prog w = .ok (.value (.pointer (some ⟨B, off + 128 * k, none⟩))) w := by
  have h0 : (k : Int) < n := by omega
  have hi := secInfo
  cases hq : Try.prog.info? 24 with
  | none => simp [hq] at hi
  | some i =>
    have hs : i.size = 128 := by simpa [hq] using hi
    unfold execOp
    simp only [ho, hx, hy]
    simp [go_sem, Try.underlying44, h0, sizeOf, typeInfo, hq, hs, addr_add, Nat.mul_comm]
theorem gives_cell_elem (x y : Operand) (ho : o.op = .indexAddr 44 x y) (B off n cap k : Nat) (hx : a.eval x = .slice (some ⟨B, off, none⟩) n cap) (hy : a.eval y = .int .i64 k) (hk' : k < n) (hk : K (a.put o.dst (.pointer (some ⟨B, off + 128 * k, none⟩)))) : ∃ v, Gives Try.prog C o a v ∧ K (a.put o.dst v) :=
  ⟨_, fun w _ => cell_addr x y ho B off n cap k hx hy hk' w, hk⟩
theorem cell_from (B off k : Nat) (hk : k < 128) (w : World) : (Instr.sliceAt 24 (.pointer (some ⟨B, off, none⟩)) (some (.int .i64 k)) none none).run Try.prog w = .ok (.slice (some ⟨B, off + k, none⟩) (128 - k) (128 - k)) w := by
  have hs := byteElem.run_size (P := Try.prog) w
  have e1 : (0 : Int) ≤ k := by omega
  have e2 : (k : Int) ≤ 128 := by omega
  have e3 : ¬ 128 = k := by omega
  simp [go_sem, e1, e2, e3, hs, addr_add, Program.elem]
theorem gives_cell_from (x y : Operand) (ho : o.op = .slice 24 x (some y) none none) (B off k m p : Nat) (hx : a.eval x = .pointer (some ⟨B, off, none⟩)) (hy : a.eval y = .int .i64 k) (hk' : k < 128) (hm : 128 - k = m) (hp : off + k = p) (hk : K (a.put o.dst (.slice (some ⟨B, p, none⟩) m m))) : ∃ v, Gives Try.prog C o a v ∧ K (a.put o.dst v) :=
  ⟨_, fun w _ => by
    subst hm
    subst hp
    have hr := cell_from B off k hk' w
    unfold execOp
    simp only [ho, hx]
    simp [hy, hr], hk⟩
theorem gives_any (v : Value) (h : ∀ w, (execOp a.eval o).run Try.prog w = .ok (.value v) w) (hk : K (a.put o.dst v)) : ∃ v, Gives Try.prog C o a v ∧ K (a.put o.dst v) := ⟨v, fun w _ => h w, hk⟩
theorem gives_quo4 (x : Operand) (ho : o.op = .binOp .quo 3 x (.const (.int .i64 4)) 3) (k : Nat) (hx : a.eval x = .int .i64 k) (hk' : k < 1000) (m : Nat) (hm : k / 4 = m) (hk : K (a.put o.dst (.int .i64 m))) : ∃ v, Gives Try.prog C o a v ∧ K (a.put o.dst v) :=
  gives_any _ (fun w => by
    have e2 : IntKind.i64.wrap ((k : Int) / 4) = (m : Int) := by rw [IntWalk.i64_in _ (by omega)]; omega
    unfold execOp
    simp only [ho, hx]
    simp [go_sem, e2, Act.eval]) hk
theorem gives_rem4 (x : Operand) (ho : o.op = .binOp .rem 3 x (.const (.int .i64 4)) 3) (k : Nat) (hx : a.eval x = .int .i64 k) (hk' : k < 1000) (m : Nat) (hm : k % 4 = m) (hk : K (a.put o.dst (.int .i64 m))) : ∃ v, Gives Try.prog C o a v ∧ K (a.put o.dst v) :=
  gives_any _ (fun w => by
    have e2 : IntKind.i64.wrap ((k : Int) % 4) = (m : Int) := by rw [IntWalk.i64_in _ (by omega)]; omega
    have e3 : (k : Int).tmod 4 = (k : Int) % 4 := by rw [Int.tmod_eq_emod_of_nonneg (by omega)]
    unfold execOp
    simp only [ho, hx]
    simp [go_sem, e3, Act.eval]
    omega) hk
theorem gives_mul32 (x : Operand) (ho : o.op = .binOp .mul 3 (.const (.int .i64 32)) x 3) (k : Nat) (hx : a.eval x = .int .i64 k) (hk' : k < 1000) (m : Nat) (hm : 32 * k = m) (hk : K (a.put o.dst (.int .i64 m))) : ∃ v, Gives Try.prog C o a v ∧ K (a.put o.dst v) :=
  gives_any _ (fun w => by
    have e2 : IntKind.i64.wrap (32 * (k : Int)) = (m : Int) := by rw [IntWalk.i64_in _ (by omega)]; omega
    unfold execOp
    simp only [ho, hx]
    simp [go_sem, e2, Act.eval]) hk
theorem done_copy_row {K : Value → World → Prop} (d s : Operand) (ho : o.op = .call { callee := .builtin .copy, args := #[d, s], argTypes := #[22, 22] }) (B off dLen dCap : Nat) (hd : a.eval d = .slice (some ⟨B, off, none⟩) dLen dCap) (C' o' n cap : Nat) (hs : a.eval s = .slice (some ⟨C', o', none⟩) n cap) (m : Nat) (hm : Nat.min n dLen = m) (N : Nat) (g : Nat → Nat) (hB : CellB w B (bytC N (fTo off g))) (hN : off + m ≤ N) (hc : ∀ i, i < m → w.cell? ⟨C', o' + i, none⟩ = some (.int .u8 (g (off + i) : Nat)))
    (h : ∀ w', CellB w' B (bytC N (fTo (off + m) g)) → But B w w' → w'.heap.size = w.heap.size → K (.int .i64 m) w') : doneAt Try.prog o a w K := by
  have e := fun ty => run_copy_wide (P := Try.prog) 1 w 22 22 ty 5 B off dLen dCap ⟨C', o', none⟩ n cap (bytC m fun j => g (off + j)) Try.underlying22 byteElem.size (by rw [bytC_len, hm, Nat.mul_one]) (fun j v hv => by
    obtain ⟨hj, rfl⟩ := bytC_is hv
    rw [add_plain]; exact hc j hj) (by rw [bytC_len]; exact hB.there (by rw [bytC_len]; exact hN)) (bytC_one _ _)
  rw [hm] at e
  unfold doneAt
  simp [execOp, ho, resolve, invoke, builtin, hd, hs, e, Result.andThen]
  exact h _ (bytC_over hB hN) (but_setCells B _ _ w) (size_setCells B _ _ w)
end
/-! ### Tags as one row of bytes -/
def flatF (L : List (List Int)) : Nat → Nat := fun j => natF (L.getD (j / 32) []) (j % 32)
theorem flatF_at (L : List (List Int)) {k i : Nat} (hi : i < 32) : flatF L (32 * k + i) = natF (L.getD k []) i := by
  unfold flatF
  rw [show (32 * k + i) / 32 = k by omega, show (32 * k + i) % 32 = i by omega]
theorem flat_lt {L : List (List Int)} (h : ∀ t ∈ L, IsSum t) (j : Nat) : flatF L j < 256 := by
  unfold flatF
  by_cases hj : j / 32 < L.length
  · refine natF_lt (h _ ?_).2 _
    rw [List.getD_eq_getElem?_getD, List.getElem?_eq_getElem hj]
    exact List.getElem_mem hj
  · rw [List.getD_eq_getElem?_getD, List.getElem?_eq_none (by omega)]
    show natF [] _ < 256
    rw [natF_out (by simp)]; decide
/-- A row of bytes as tags. -/
theorem sum_cells {w : World} {B : Nat} {t : List Int} (h : SumsB w B [t]) {i : Nat} (hi : i < 32) : w.cell? ⟨B, i, none⟩ = some (.int .u8 (natF t i : Nat)) := by
  have := h.rows 0 t rfl i _ (sumC_get _ hi)
  rwa [show 32 * 0 + i = i by omega] at this
theorem rows_some {w : World} {q : Option Addr} {L : List (List Int)} (h : RowsAt 32 sumC w q L) (hL : L.length = 32) : ∃ B o, q = some ⟨B, o, none⟩ ∧ B < w.heap.size ∧ ∀ k, k < 32 → w.rangeAt B (o + 32 * k) (sumC (L.getD k [])) := by
  rcases h with rfl | ⟨B, o, h1, h2, h3⟩
  · cases hL
  · exact ⟨B, o, h1, h2, fun k hk => h3 k _ (by rw [List.getD_eq_getElem?_getD, List.getElem?_eq_getElem (by omega)]; rfl)⟩
theorem sums_of_cells {w : World} {B : Nat} {L : List (List Int)} (h : CellB w B (bytC (32 * L.length) (flatF L))) : SumsB w B L := by
  refine ⟨h.own, fun i c hc => h.part fun j v hv => ?_⟩
  have hj : j < 32 := by have := (List.getElem?_eq_some_iff.1 hv).1; rwa [sumC_len] at this
  have hi : i < L.length := (List.getElem?_eq_some_iff.1 hc).1
  rw [sumC_get _ hj] at hv
  rw [bytC_get _ (by omega), flatF_at L hj, List.getD_eq_getElem?_getD, hc]
  exact hv
end Go.Proofs.Ytghdeedglekphaa

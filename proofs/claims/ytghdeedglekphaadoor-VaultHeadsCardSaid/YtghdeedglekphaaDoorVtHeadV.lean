/- Heads as values and in blocks: made, read, written. Conditions: as each says. -/
import Derived.Test.YtghdeedglekphaaDoorVtCell
namespace Go.Proofs.YtghdeedglekphaaDoor
open Go.ChangeShapes Go.WideShapes Go.ChangeAt Go.RowKit
set_option linter.unusedVariables false
/-! ### A head's mathematics: a count, and 88 bytes (both roots, and Rest) -/
def IsRow88 (P : List Int) : Prop := P.length = 88 ∧ IsBytes P
theorem IsRow88.mk' {P : List Int} (h : IsRow88 P) : mk 88 (natF P) = P := by have := mk_natF h.2; rw [h.1] at this; exact this
theorem isRow88_mk {f : Nat → Nat} (h : ∀ i, i < 88 → f i < 256) : IsRow88 (mk 88 f) := ⟨mk_len _ _, mk_bytes h⟩
def noRow : List Int := mk 88 zeroK
theorem noRow_row : IsRow88 noRow := isRow88_mk fun _ _ => by unfold zeroK; omega
/-- A head's 96 bytes ahead of its tag. -/
def hdT (z : Int) (P : List Int) : List Int := numL 8 z ++ P
theorem hdT_len {z : Int} {P : List Int} (h : IsRow88 P) : (hdT z P).length = 96 := by unfold hdT; rw [List.length_append, numL_len, h.1]
theorem hdT_bytes {z : Int} {P : List Int} (h : IsRow88 P) : IsBytes (hdT z P) := (numL_bytes 8 z).append h.2
/-- A head's sector. -/
def hdL (τ : List Int → List Int) (z : Int) (P : List Int) : List Int := hdT z P ++ τ (hdT z P)
theorem hdL_sec {τ : List Int → List Int} (hτ : ∀ t, IsSum (τ t)) {z : Int} {P : List Int} (h : IsRow88 P) : IsSec (hdL τ z P) :=
  ⟨by unfold hdL; rw [List.length_append, hdT_len h, (hτ _).1], (hdT_bytes h).append (hτ _).2⟩
/-- What a sector says as a head. -/
def takeP (s : List Int) : List Int := mk 88 fun j => natF s (8 + j)
theorem takeP_row {s : List Int} (h : IsBytes s) : IsRow88 (takeP s) := isRow88_mk fun i _ => natF_lt h _
theorem count_hd (τ : List Int → List Int) {z : Int} (P : List Int) (h0 : 0 ≤ z) (h1 : z ≤ 9223372036854775807) : countL (hdL τ z P) = z := by
  unfold countL
  rw [valN_ext 8 (g' := numF 8 z) fun j hj => by
    unfold hdL hdT
    rw [natF_left (by rw [List.length_append, numL_len]; omega), natF_left (by rw [numL_len]; omega)]
    exact natF_mk hj, valN_num8 h0 h1]
  exact IntWalk.i64_in _ (by omega)
theorem take_hd (τ : List Int → List Int) (z : Int) {P : List Int} (h : IsRow88 P) : takeP (hdL τ z P) = P := by
  rw [← h.mk']
  refine mk_ext fun j hj => ?_
  rw [h.mk']
  unfold hdL hdT
  rw [natF_left (by rw [List.length_append, numL_len, h.1]; omega), natF_right (by rw [numL_len]; omega), numL_len]
  congr 1; omega
/-- Whether a sector is a head's. -/
def isHd (τ : List Int → List Int) (s : List Int) : Prop := 0 ≤ countL s ∧ hdL τ (countL s) (takeP s) = s
/-! ### A head as a value -/
def headC (z : Int) (P : List Int) : List Value := .int .i64 z :: bytC 88 (natF P)
def headV (z : Int) (P : List Int) : Value := .agg (headC z P).toArray
theorem headC_len (z : Int) (P : List Int) : (headC z P).length = 89 := by unfold headC; rw [List.length_cons, bytC_len]
theorem headC_one (z : Int) (P : List Int) : ∀ u ∈ headC z P, u.oneCell' = true := fun u hu => by
  rcases List.mem_cons.1 hu with rfl | h
  · rfl
  · exact bytC_one _ _ u h
theorem headC_count (z : Int) (P : List Int) : (headC z P)[0]? = some (.int .i64 z) := rfl
theorem headC_get (z : Int) (P : List Int) {j : Nat} (h : j < 88) : (headC z P)[1 + j]? = some (.int .u8 (natF P j : Nat)) := by
  unfold headC
  rw [Nat.add_comm, List.getElem?_cons_succ]; exact bytC_get _ h
theorem headC_is {z : Int} {P : List Int} {j : Nat} {v : Value} (h : (headC z P)[j]? = some v) : (j = 0 ∧ v = .int .i64 z) ∨ (1 ≤ j ∧ j < 89 ∧ v = .int .u8 (natF P (j - 1) : Nat)) := by
  rcases j with _ | j
  · left; cases h; exact ⟨rfl, rfl⟩
  · right
    unfold headC at h
    rw [List.getElem?_cons_succ] at h
    obtain ⟨h1, h2⟩ := bytC_is h
    exact ⟨by omega, by omega, by rw [h2]; rfl⟩
theorem headC_part (z : Int) (P : List Int) (o n : Nat) (hn : o + n ≤ 88) : ∀ j v, (bytC n fun j => natF P (o + j))[j]? = some v → (headC z P)[(1 + o) + j]? = some v := fun j v hv => by
  obtain ⟨hj, rfl⟩ := bytC_is hv
  rw [Nat.add_assoc]; exact headC_get z P (by omega)
theorem headInfo : (Tryd.prog.info? 28).map (·.size) = some 89 := by kernel_rfl
theorem headUnd : ∃ d, Tryd.prog.underlying 28 = some d ∧ d.isRow = true := ⟨_, Tryd.underlying28, rfl⟩
theorem headZero_run (W : World) : (zeroValue 28).run Tryd.prog W = .ok (.agg (headC 0 noRow).toArray) W := by
  have h : (Tryd.prog.info? 28).bind (·.zero) = some (.agg (headC 0 noRow).toArray) := by kernel_rfl
  cases hq : Tryd.prog.info? 28 with
  | none => rw [hq] at h; simp at h
  | some i =>
    rw [hq] at h
    simp only [Option.bind_some] at h
    simp [zeroValue, typeInfo, hq, h]
theorem head_built0 : Tryd.prog.built 28 [] = some (headC 0 noRow).toArray := by kernel_rfl
theorem head_built1 (z : Int) : Tryd.prog.built 28 [(0, .int .i64 z)] = some (headC z noRow).toArray := by kernel_rfl
section
variable {ops : Array Oper} {rest : List Oper} {o : Oper} {a : Act} {w : World} {Q : Exit → Act → World → Prop} {C : World → Prop} {K : Act → Prop}
theorem wpList_head_alloc (hw : Region.wanted o (yielded ops a.tmps) = true) (ho : o.op = .alloc 28) (S : Nat) (hS : w.heap.size = S)
    (h : ∀ w', CellB w' S (headC 0 noRow) → Below S w w' → w'.heap.size = S + 1 → wpList Tryd.prog ops Q rest (a.put o.dst (.pointer (some ⟨S, 0, none⟩))) w') : wpList Tryd.prog ops Q (o :: rest) a w :=
  wanted_step hw fun K hK => by
    subst hS
    have e := headZero_run w
    unfold Oper.wp execOp
    simp only [ho]
    simp [go_sem, e]
    exact hK _ _ (h _ (CellB.new w _ _) ((Below.refl _ _).alloc (Nat.le_refl _) _) (by simp))
theorem wpList_head_box (hgd : o.guard = none) (x : Operand) (ho : o.op = .box 28 x) (z : Int) (P : List Int) (hx : a.eval x = headV z P) (S : Nat) (hS : w.heap.size = S)
    (h : ∀ w', CellB w' S (headC z P) → Below S w w' → w'.heap.size = S + 1 → wpList Tryd.prog ops Q rest (a.put o.dst (.pointer (some ⟨S, 0, none⟩))) w') : wpList Tryd.prog ops Q (o :: rest) a w :=
  wpList_plain hgd fun K hK => by
    subst hS
    unfold headV at hx
    unfold Oper.wp execOp
    simp only [ho, hx]
    simp [go_sem]
    exact hK _ _ (h _ (CellB.new w _ _) ((Below.refl _ _).alloc (Nat.le_refl _) _) (by simp))
theorem exec_head_load (x : Operand) (ho : o.op = .load 28 x) (B : Nat) (hx : a.eval x = .pointer (some ⟨B, 0, none⟩)) (z : Int) (P : List Int) (hc : w.rangeAt B 0 (headC z P)) : (execOp a.eval o).run Tryd.prog w = .ok (.value (headV z P)) w := by
  obtain ⟨d, hd, hr⟩ := headUnd
  have e := run_loadVar_mid w B 0 28 (headC z P) d hc hd hr (by rw [headC_len]; exact headInfo)
  unfold headV execOp
  simp only [ho, hx, Instr.loadAt, Instr.sureAddr, Sem.run_bind, Sem.run_pure, Result.andThen_ok, e]
theorem wpList_head_load (hw : Region.wanted o (yielded ops a.tmps) = true) (x : Operand) (ho : o.op = .load 28 x) (B : Nat) (hx : a.eval x = .pointer (some ⟨B, 0, none⟩)) (z : Int) (P : List Int) (hc : w.rangeAt B 0 (headC z P)) (h : wpList Tryd.prog ops Q rest (a.put o.dst (headV z P)) w) : wpList Tryd.prog ops Q (o :: rest) a w :=
  wanted_step hw fun K hK => by
    unfold Oper.wp
    rw [exec_head_load x ho B hx z P hc]
    exact hK _ _ h
theorem gives_head_load (x : Operand) (ho : o.op = .load 28 x) (B : Nat) (hx : a.eval x = .pointer (some ⟨B, 0, none⟩)) (z : Int) (P : List Int) (hc : ∀ w, C w → w.rangeAt B 0 (headC z P)) (hk : K (a.put o.dst (headV z P))) : ∃ v, Gives Tryd.prog C o a v ∧ K (a.put o.dst v) :=
  ⟨_, fun w hw => exec_head_load x ho B hx z P (hc w hw), hk⟩
theorem head_over {B : Nat} {z z0 : Int} {P P0 : List Int} (h : CellB w B (headC z0 P0)) : CellB (w.setCells B 0 (headC z P)) B (headC z P) := h.over (by rw [headC_len, headC_len]; omega) fun j v hv => ⟨fun _ => hv, fun hj => by
  have := (List.getElem?_eq_some_iff.1 hv).1
  rw [headC_len] at this hj; omega⟩
theorem wpList_head_store (hgd : o.guard = none) (x y : Operand) (ho : o.op = .store 28 x y) (hd : o.dst = none) (B : Nat) (hx : a.eval x = .pointer (some ⟨B, 0, none⟩)) (z : Int) (P : List Int) (hy : a.eval y = headV z P) (z0 : Int) (P0 : List Int) (hl : CellB w B (headC z0 P0))
    (h : ∀ w', CellB w' B (headC z P) → But B w w' → w'.heap.size = w.heap.size → wpList Tryd.prog ops Q rest a w') : wpList Tryd.prog ops Q (o :: rest) a w :=
  wpList_plain hgd fun K hK => by
    unfold headV at hy
    unfold Oper.wp execOp
    simp only [ho, hx, hy]
    rw [Sem.run_bind, run_storeAt_mid w B 0 28 (headC z P).toArray (by rw [List.size_toArray, headC_len]; exact hl.there (by rw [headC_len]; omega)) (by rw [List.size_toArray, headC_len]; exact headInfo) (all_oneCell_toArray (headC_one _ _))]
    show K (a.put o.dst undef) _
    rw [hd]
    exact hK _ _ (h _ (head_over hl) (but_setCells B _ _ w) (size_setCells B _ _ w))
theorem wpList_head_build0 (hw : Region.wanted o (yielded ops a.tmps) = true) (ho : o.op = .build 28 #[])
    (h : wpList Tryd.prog ops Q rest (a.put o.dst (headV 0 noRow)) w) : wpList Tryd.prog ops Q (o :: rest) a w :=
  wanted_step hw fun K hK => by
    have e := run_build w 28 #[] _ head_built0
    unfold headV at h
    unfold Oper.wp execOp
    simp only [ho]
    simp [e]
    exact hK _ _ h
theorem wpList_head_build1 (hgd : o.guard = none) (x : Operand) (ho : o.op = .build 28 #[(0, x)]) (z : Int) (hx : a.eval x = .int .i64 z)
    (h : wpList Tryd.prog ops Q rest (a.put o.dst (headV z noRow)) w) : wpList Tryd.prog ops Q (o :: rest) a w := by
  unfold headV at h
  exact wpList_build_any hgd 28 _ #[(0, .int .i64 z)] _ ho (by simp only [List.map_toArray, List.map_cons, List.map_nil, hx]) (fun w => run_build w 28 #[(0, .int .i64 z)] _ (head_built1 z)) h
end
/-! ### Both roots, one of them -/
def rootK (P : List Int) (k : Nat) : List Int := mk 32 fun j => natF P (32 * k + j)
theorem rootK_sum {P : List Int} (h : IsBytes P) (k : Nat) : IsSum (rootK P k) := isSum_mk fun i _ => natF_lt h _
def rootsV (P : List Int) : Value := .agg (bytC 64 (natF P)).toArray
theorem rootsInfo : (Tryd.prog.info? 25).map (·.size) = some 64 := by kernel_rfl
theorem rootsUnd : Tryd.prog.underlying 25 = some (.array 2 24) := by kernel_rfl
theorem isAgg_sumV (w : World) : (isAgg 24).run Tryd.prog w = .ok true w := by simp [go_sem]
theorem size_sumV (w : World) : (sizeOf 24).run Tryd.prog w = .ok 32 w := by
  have h := sumSz
  cases hq : Tryd.prog.info? 24 with
  | none => rw [hq] at h; simp at h
  | some i =>
    rw [hq] at h
    have : i.size = 32 := by simpa using h
    simp [sizeOf, typeInfo, hq, this]
theorem roots_cut (P : List Int) (k : Nat) (hk : k < 2) : (bytC 64 (natF P)).toArray.extract (32 * k) (32 * k + 32) = cellsOf .u8 (mk 32 (natF (rootK P k))) := by
  rcases (show k = 0 ∨ k = 1 by omega) with rfl | rfl <;> kernel_rfl
theorem roots_part (P : List Int) (k : Nat) (hk : k < 2) (w : World) : (part 24 (bytC 64 (natF P)).toArray (k * 32)).run Tryd.prog w = .ok (sumVal (rootK P k)) w := by
  have e := roots_cut P k hk
  unfold sumVal part
  rw [Nat.mul_comm k 32]
  simp only [Sem.run_bind, isAgg_sumV, Result.andThen_ok, if_true, size_sumV, Sem.run_pure, e]
section
variable {ops : Array Oper} {rest : List Oper} {o : Oper} {a : Act} {w : World} {Q : Exit → Act → World → Prop}
theorem wpList_roots_load (hgd : o.guard = none) (x : Operand) (ho : o.op = .load 25 x) (B : Nat) (hx : a.eval x = .pointer (some ⟨B, 1, none⟩)) (z : Int) (P : List Int) (hc : CellB w B (headC z P)) (h : wpList Tryd.prog ops Q rest (a.put o.dst (rootsV P)) w) : wpList Tryd.prog ops Q (o :: rest) a w :=
  wpList_plain hgd fun K hK => by
    have hr : w.rangeAt B 1 (bytC 64 (natF P)) := hc.part (off := 1) fun j v hv => by
      have := headC_part z P 0 64 (by omega) j v (by simpa using hv)
      simpa using this
    have e := run_loadVar_mid w B 1 25 (bytC 64 (natF P)) _ hr rootsUnd rfl (by rw [bytC_len]; exact rootsInfo)
    unfold rootsV at h
    unfold Oper.wp execOp
    simp only [ho, hx, Instr.loadAt, Instr.sureAddr, Sem.run_bind, Sem.run_pure, Result.andThen_ok, e]
    exact hK _ _ h
theorem wpList_roots_index (hgd : o.guard = none) (x y : Operand) (ho : o.op = .index 25 x y) (P : List Int) (hx : a.eval x = rootsV P) (k : Nat) (hy : a.eval y = .int .i64 k) (hk : k < 2) (h : wpList Tryd.prog ops Q rest (a.put o.dst (sumVal (rootK P k))) w) : wpList Tryd.prog ops Q (o :: rest) a w :=
  wpList_plain hgd fun K hK => by
    have h0 : (0 : Int) ≤ k ∧ (k : Int) < 2 := by omega
    have e : (Instr.index 25 (.agg (bytC 64 (natF P)).toArray) (.int .i64 k)).run Tryd.prog w = .ok (sumVal (rootK P k)) w := by
      simp [Instr.index, run_underlying rootsUnd, asIntOf, h0, roots_part P k hk]
      omega
    unfold rootsV at hx
    unfold Oper.wp execOp
    simp only [ho, hx, hy]
    simp [e]
    exact hK _ _ h
end
/-! ### A text that grows: the count, the roots, Rest -/
def txtK (z : Int) (P : List Int) (m : Nat) : List Int := numL 8 z ++ mk m (natF P)
theorem txtK_zero (z : Int) (P : List Int) : txtK z P 0 = numL 8 z := by unfold txtK; rw [show mk 0 (natF P) = [] from rfl, List.append_nil]
theorem mk_add (m n : Nat) (f : Nat → Nat) : mk (m + n) f = mk m f ++ mk n fun j => f (m + j) := by
  unfold mk
  rw [List.range_add, List.map_append, List.map_map]; rfl
theorem txtK_root (z : Int) (P : List Int) (k : Nat) : txtK z P (32 * k) ++ rootK P k = txtK z P (32 * (k + 1)) := by
  unfold txtK rootK
  rw [List.append_assoc, ← mk_add]; rfl
def restK (P : List Int) : List Int := mk 24 fun j => natF P (64 + j)
theorem restK_bytes {P : List Int} (h : IsBytes P) : IsBytes (restK P) := mk_bytes fun i _ => natF_lt h _
theorem restK_len (P : List Int) : (restK P).length = 24 := mk_len _ _
theorem txtK_rest (z : Int) {P : List Int} (h : IsRow88 P) : txtK z P 64 ++ restK P = hdT z P := by
  unfold txtK restK hdT
  rw [List.append_assoc, ← mk_add, h.mk']
theorem txtK_len (z : Int) (P : List Int) (m : Nat) : (txtK z P m).length = 8 + m := by unfold txtK; rw [List.length_append, numL_len, mk_len]
theorem head_rest_at {w : World} {B : Nat} {z : Int} {P : List Int} (hP : IsBytes P) (h : CellB w B (headC z P)) : RowsAt 1 byteC w (some ⟨B, 65, none⟩) (restK P) := by
  have hr : w.rangeAt B 65 (bytC 24 fun j => natF P (64 + j)) := h.part (off := 65) fun j v hv => headC_part z P 64 24 (by omega) j v hv
  have hb := bytes_of_range hr h.lt
  refine bytes_rows ?_ (restK_bytes hP)
  rw [show (restK P).length = 24 from mk_len _ _]
  exact bytes_congr (fun j hj => (natF_mk hj).symm) hb
theorem sum_rows_at {w : World} {B : Nat} {t : List Int} (ht : IsSum t) (h : SumsB w B [t]) : RowsAt 1 byteC w (some ⟨B, 0, none⟩) t := bytes_rows (by rw [ht.1]; exact sumsB_bytes h) ht.2
end Go.Proofs.YtghdeedglekphaaDoor

/- Blocks that hold tags: boxes and lists; how they are made, read and written; sums by value in plain and in drawn regions. Conditions: as each says. -/
import Derived.Test.YtccpecajbfpjdaaDoorTrSum
namespace Go.Proofs.YtccpecajbfpjdaaDoor
open Go.ChangeShapes Go.WideShapes Go.ChangeAt Go.RowKit
set_option linter.unusedVariables false

theorem own_setCells (B : Nat) : ∀ (vs : List Value) (o : Nat) (w : World), (∃ cur e, w.heap[B]? = some (.cells cur e (0, 0))) → ∃ cur e, (w.setCells B o vs).heap[B]? = some (.cells cur e (0, 0))
  | [], _, _, h => h
  | v :: r, o, w, ⟨cur, e, h⟩ => own_setCells B r (o + 1) _ ⟨_, e, heap_setCell_same w B o cur e v h⟩
theorem but_setCells (B : Nat) : ∀ (vs : List Value) (o : Nat) (w : World), But B w (w.setCells B o vs)
  | [], _, w => But.of (Below.refl _ w)
  | v :: r, o, w => (But.setCell B o w v).trans (but_setCells B r (o + 1) _)
theorem size_setCells (B : Nat) : ∀ (vs : List Value) (o : Nat) (w : World), (w.setCells B o vs).heap.size = w.heap.size
  | [], _, _ => rfl
  | v :: r, o, w => by
    have h := size_setCells B r (o + 1) (w.setCell ⟨B, o, none⟩ v)
    have h2 : (w.setCell ⟨B, o, none⟩ v).heap.size = w.heap.size := by simp [World.setCell]
    exact h.trans h2
/-- Block B holds a list of tags, and may be written. -/
structure SumsB (w : World) (B : Nat) (l : List (List Int)) : Prop where
  own : ∃ cur e, w.heap[B]? = some (.cells cur e (0, 0))
  rows : ∀ i c, l[i]? = some c → w.rangeAt B (32 * i) (sumC c)
section
variable {w w' : World} {B : Nat} {l : List (List Int)}
theorem SumsB.lt (h : SumsB w B l) : B < w.heap.size := by
  obtain ⟨cur, e, h⟩ := h.own
  exact (Array.getElem?_eq_some_iff.1 h).1
theorem SumsB.keep (h : SumsB w B l) (hb : w'.heap[B]? = w.heap[B]?) : SumsB w' B l := by
  obtain ⟨cur, e, ho⟩ := h.own
  refine ⟨⟨cur, e, hb.trans ho⟩, fun i c hc j v hv => ?_⟩
  rw [World.cell?_of_block (w := w) (w' := w') (a := ⟨B, 32 * i + j, none⟩) hb]
  exact h.rows i c hc j v hv
theorem SumsB.below (h : SumsB w B l) (hb : Below w.heap.size w w') : SumsB w' B l := h.keep (hb.block B h.lt)
theorem SumsB.belowM {M : Nat} (h : SumsB w B l) (hb : Below M w w') (hM : B < M) : SumsB w' B l := h.keep (hb.block B hM)
theorem SumsB.but {C : Nat} (h : SumsB w B l) (hb : But C w w') (hne : B ≠ C) : SumsB w' B l := h.keep (hb.same B h.lt hne)
theorem SumsB.at (h : SumsB w B l) : RowsAt 32 sumC w (some ⟨B, 0, none⟩) l := .inr ⟨B, 0, rfl, h.lt, fun i c hc => by rw [Nat.zero_add]; exact h.rows i c hc⟩
theorem SumsB.get (h : SumsB w B l) {k : Nat} (hk : k < l.length) : w.rangeAt B (32 * k) (sumC (l.getD k [])) := h.rows k _ (by rw [List.getD_eq_getElem?_getD, List.getElem?_eq_getElem hk]; rfl)
theorem SumsB.one {t : List Int} (h : SumsB w B [t]) : w.rangeAt B 0 (sumC t) := h.rows 0 t rfl
theorem SumsB.take {n : Nat} (h : SumsB w B l) : SumsB w B (l.take n) := ⟨h.own, fun i c hc => by
  have := List.getElem?_take (l := l) (i := n) (j := i)
  rw [this] at hc
  split at hc
  · exact h.rows i c hc
  · cases hc⟩
theorem SumsB.there (h : SumsB w B l) {k : Nat} (hk : k < l.length) : w.there B (32 * k) 32 := fun j hj => by
  obtain ⟨cur, e, ho⟩ := h.own
  refine ⟨?_, frozen_of_row w B _ cur e ho⟩
  rw [h.get hk j _ (sumC_get _ hj)]; rfl
theorem SumsB.set (h : SumsB w B l) {k : Nat} (hk : k < l.length) (t : List Int) : SumsB (w.setCells B (32 * k) (sumC t)) B (l.set k t) := by
  refine ⟨own_setCells B _ _ w h.own, fun i c hc => ?_⟩
  rw [List.getElem?_set] at hc
  by_cases e : k = i
  · subst e
    rw [if_pos rfl, if_pos hk] at hc
    cases hc
    exact World.rangeAt_setCells_same w B _ _ (by rw [sumC_len]; exact h.there hk)
  · rw [if_neg e] at hc
    exact World.rangeAt_setCells_apart (h.rows i c hc) B _ _ (.inr (by rw [sumC_len, sumC_len]; omega))
theorem SumsB.new (w : World) (l : List (List Int)) (e : TypeId) : SumsB (w.alloc (.cells (l.flatMap sumC).toArray e)) w.heap.size l := by
  refine ⟨⟨_, e, heap_alloc_new _ _⟩, fun i c hc => ?_⟩
  obtain h | ⟨B, o, h1, h2, h3⟩ := rows_new sumC_len w l e
  · rw [h] at hc; simp at hc
  · cases h1
    have := h3 i c hc
    rwa [Nat.zero_add] at this
theorem SumsB.box (w : World) (t : List Int) (e : TypeId) : SumsB (w.alloc (.cells (sumC t).toArray e)) w.heap.size [t] := by
  have := SumsB.new w [t] e
  simpa using this
/-- A list that grew by append, where it isn't empty. -/
theorem OwnL.sums {base top : Nat} {v : Value} {x : List Int} {m : List (List Int)} (h : OwnL 25 32 sumC w base top v (x :: m)) : ∃ B c, v = .slice (some ⟨B, 0, none⟩) (x :: m).length c ∧ (x :: m).length ≤ c ∧ base ≤ B ∧ B < top ∧ SumsB w B (x :: m) := by
  have hr := h.rows sumC_len
  rcases h with ⟨_, h2⟩ | ⟨B, c, cur, h1, h2, h3, h4, h5, h6, h7, h8⟩
  · cases h2
  · obtain ⟨p, c', e1, _, _, hr, _⟩ := hr
    rw [h1] at e1
    cases e1
    refine ⟨B, c, h1, h5, h2, h3, ⟨cur, _, h4⟩, fun i d hd => ?_⟩
    obtain hr | ⟨B', o, e2, _, hr⟩ := hr
    · cases hr
    · cases e2
      have := hr i d hd
      rwa [Nat.zero_add] at this
end
theorem sumVal_cells (t : List Int) : sumVal t = .agg (sumC t).toArray := (sumVal_arr t).symm
theorem nought_nil : sumVal [] = sumVal nought := rfl
theorem sumZ_run (W : World) : (zeroValue 25).run Tryd.prog W = .ok (sumVal nought) W := by
  have h := sumZro
  cases hq : Tryd.prog.info? 25 with
  | none => rw [hq] at h; simp at h
  | some i =>
    rw [hq] at h
    simp only [Option.bind_some] at h
    rw [← nought_nil]
    simp [zeroValue, typeInfo, hq, h]
section
variable {ops : Array Oper} {rest : List Oper} {o : Oper} {a : Act} {w : World} {Q : Exit → Act → World → Prop} {C : World → Prop} {K : Act → Prop}
theorem wpList_sum_alloc (hw : Region.wanted o (yielded ops a.tmps) = true) (ho : o.op = .alloc 25) (S : Nat) (hS : w.heap.size = S)
    (h : ∀ w', SumsB w' S [nought] → Below S w w' → w'.heap.size = S + 1 → wpList Tryd.prog ops Q rest (a.put o.dst (.pointer (some ⟨S, 0, none⟩))) w') : wpList Tryd.prog ops Q (o :: rest) a w :=
  wanted_step hw fun K hK => by
    subst hS
    have e := sumZ_run w
    unfold Oper.wp execOp
    simp only [ho]
    rw [sumVal_cells] at e
    simp [go_sem, e]
    exact hK _ _ (h _ (SumsB.box w nought _) ((Below.refl _ _).alloc (Nat.le_refl _) _) (by simp))
theorem wpList_sum_box (hgd : o.guard = none) (x : Operand) (ho : o.op = .box 25 x) (t : List Int) (hx : a.eval x = sumVal t) (S : Nat) (hS : w.heap.size = S)
    (h : ∀ w', SumsB w' S [t] → Below S w w' → w'.heap.size = S + 1 → wpList Tryd.prog ops Q rest (a.put o.dst (.pointer (some ⟨S, 0, none⟩))) w') : wpList Tryd.prog ops Q (o :: rest) a w :=
  wpList_plain hgd fun K hK => by
    subst hS
    have hx2 := hx.trans (sumVal_cells t)
    unfold Oper.wp execOp
    simp only [ho, hx2]
    simp [go_sem]
    exact hK _ _ (h _ (SumsB.box w t _) ((Below.refl _ _).alloc (Nat.le_refl _) _) (by simp))
theorem wpList_sum_load (hw : Region.wanted o (yielded ops a.tmps) = true) (x : Operand) (ho : o.op = .load 25 x) (B off : Nat) (hx : a.eval x = .pointer (some ⟨B, off, none⟩)) (s : List Int) (hc : w.rangeAt B off (sumC s)) (h : wpList Tryd.prog ops Q rest (a.put o.dst (sumVal s)) w) : wpList Tryd.prog ops Q (o :: rest) a w :=
  wanted_step hw fun K hK => by
    obtain ⟨v, hv, hk⟩ := gives_sum_mid (o := o) (a := a) (C := fun W => W = w) (K := fun a' => a' = a.put o.dst (sumVal s)) x ho B off hx s (fun W e => by rw [e]; exact hc) rfl
    have e := hv w rfl
    unfold Oper.wp
    rw [e]
    show K (a.put o.dst v) w
    rw [hk]; exact hK _ _ h
theorem exec_sum_store (x y : Operand) (ho : o.op = .store 25 x y) (B k : Nat) (hx : a.eval x = .pointer (some ⟨B, 32 * k, none⟩)) (t : List Int) (hy : a.eval y = sumVal t) (l : List (List Int)) (hl : SumsB w B l) (hk : k < l.length) :
    (execOp a.eval o).run Tryd.prog w = .ok .skip (w.setCells B (32 * k) (sumC t)) := by
  have hy2 := hy.trans (sumVal_cells t)
  unfold execOp
  simp only [ho, hx, hy2]
  rw [Sem.run_bind, run_storeAt_mid w B (32 * k) 25 (sumC t).toArray (by rw [List.size_toArray, sumC_len]; exact hl.there hk) (by rw [List.size_toArray]; exact sumC_size t) (all_oneCell_toArray (sumC_one t))]
  rfl
theorem wpList_sum_store (hgd : o.guard = none) (x y : Operand) (ho : o.op = .store 25 x y) (hd : o.dst = none) (B k : Nat) (hx : a.eval x = .pointer (some ⟨B, 32 * k, none⟩)) (t : List Int) (hy : a.eval y = sumVal t) (l : List (List Int)) (hl : SumsB w B l) (hk : k < l.length)
    (h : ∀ w', SumsB w' B (l.set k t) → But B w w' → w'.heap.size = w.heap.size → wpList Tryd.prog ops Q rest a w') : wpList Tryd.prog ops Q (o :: rest) a w :=
  wpList_plain hgd fun K hK => by
    have e := exec_sum_store x y ho B k hx t hy l hl hk
    unfold Oper.wp
    rw [e]
    show K (a.put o.dst undef) _
    rw [hd]
    exact hK _ _ (h _ (hl.set hk t) (but_setCells B _ _ w) (size_setCells B _ _ w))
theorem done_sum_store {K : Value → World → Prop} (x y : Operand) (ho : o.op = .store 25 x y) (B k : Nat) (hx : a.eval x = .pointer (some ⟨B, 32 * k, none⟩)) (t : List Int) (hy : a.eval y = sumVal t) (l : List (List Int)) (hl : SumsB w B l) (hk : k < l.length)
    (h : ∀ w', SumsB w' B (l.set k t) → But B w w' → w'.heap.size = w.heap.size → K undef w') : doneAt Tryd.prog o a w K := by
  have e := exec_sum_store x y ho B k hx t hy l hl hk
  unfold doneAt
  rw [e]
  exact h _ (hl.set hk t) (but_setCells B _ _ w) (size_setCells B _ _ w)
theorem wpList_sum_eql (hw : Region.wanted o (yielded ops a.tmps) = true) (x y : Operand) (ho : o.op = .binOp .eql 25 x y 25) (c d : List Int) (hx : a.eval x = sumVal c) (hy : a.eval y = sumVal d) (v : Bool) (hv : sameSum c d = v) (h : wpList Tryd.prog ops Q rest (a.put o.dst (.bool v)) w) : wpList Tryd.prog ops Q (o :: rest) a w :=
  wanted_step hw fun K hK => by
    subst hv
    unfold Oper.wp
    rw [exec_sum_eql x y ho c d hx hy w]
    exact hK _ _ h
theorem wpList_sum_neq (hw : Region.wanted o (yielded ops a.tmps) = true) (x y : Operand) (ho : o.op = .binOp .neq 25 x y 25) (c d : List Int) (hx : a.eval x = sumVal c) (hy : a.eval y = sumVal d) (v : Bool) (hv : (!sameSum c d) = v) (h : wpList Tryd.prog ops Q rest (a.put o.dst (.bool v)) w) : wpList Tryd.prog ops Q (o :: rest) a w :=
  wanted_step hw fun K hK => by
    subst hv
    unfold Oper.wp
    rw [exec_sum_neq x y ho c d hx hy w]
    exact hK _ _ h
theorem gives_sum_eql2 (x y : Operand) (ho : o.op = .binOp .eql 25 x y 25) (c d : List Int) (hx : a.eval x = sumVal c) (hy : a.eval y = sumVal d) (v : Bool) (hv : sameSum c d = v) (hk : K (a.put o.dst (.bool v))) : ∃ v, Gives Tryd.prog C o a v ∧ K (a.put o.dst v) :=
  ⟨_, fun w _ => by subst hv; exact exec_sum_eql x y ho c d hx hy w, hk⟩
theorem sum_built0 : Tryd.prog.built 25 [] = some (cellsOf .u8 (mk 32 zeroK)) := by kernel_rfl
theorem sumVal_nought : sumVal nought = .agg (cellsOf .u8 (mk 32 zeroK)) := rfl
theorem wpList_sum_build0 (hw : Region.wanted o (yielded ops a.tmps) = true) (ho : o.op = .build 25 #[])
    (h : wpList Tryd.prog ops Q rest (a.put o.dst (sumVal nought)) w) : wpList Tryd.prog ops Q (o :: rest) a w :=
  wanted_step hw fun K hK => by
    have e := run_build w 25 #[] _ sum_built0
    rw [sumVal_nought] at h
    unfold Oper.wp execOp
    simp only [ho]
    simp [e]
    exact hK _ _ h
theorem gives_sum_build0 (ho : o.op = .build 25 #[]) (hk : K (a.put o.dst (sumVal nought))) : ∃ v, Gives Tryd.prog C o a v ∧ K (a.put o.dst v) :=
  gives_build_any 25 #[] #[] _ ho (by simp) (fun w => by rw [sumVal_nought]; exact run_build w 25 #[] _ sum_built0) hk
/-- A tag's bytes, as a slice. -/
theorem sum_row_run (B off : Nat) (w : World) : (Instr.sliceAt 25 (.pointer (some ⟨B, off, none⟩)) none none none).run Tryd.prog w = .ok (.slice (some ⟨B, off, none⟩) 32 32) w := by
  have hs := byteElem.run_size (P := Tryd.prog) w
  simp [go_sem, hs, addr_add, Program.elem]
theorem wpList_sum_row (hw : Region.wanted o (yielded ops a.tmps) = true) (x : Operand) (ho : o.op = .slice 25 x none none none) (B off : Nat) (hx : a.eval x = .pointer (some ⟨B, off, none⟩))
    (h : wpList Tryd.prog ops Q rest (a.put o.dst (.slice (some ⟨B, off, none⟩) 32 32)) w) : wpList Tryd.prog ops Q (o :: rest) a w :=
  wanted_step hw fun K hK => by
    have hr := sum_row_run B off w
    unfold Oper.wp execOp
    simp only [ho, hx]
    simp [hr]
    exact hK _ _ h
theorem gives_sum_row (x : Operand) (ho : o.op = .slice 25 x none none none) (B off : Nat) (hx : a.eval x = .pointer (some ⟨B, off, none⟩)) (hk : K (a.put o.dst (.slice (some ⟨B, off, none⟩) 32 32))) : ∃ v, Gives Tryd.prog C o a v ∧ K (a.put o.dst v) :=
  ⟨_, fun w _ => by
    have hr := sum_row_run B off w
    unfold execOp
    simp only [ho, hx]
    simp [hr], hk⟩
end
end Go.Proofs.YtccpecajbfpjdaaDoor

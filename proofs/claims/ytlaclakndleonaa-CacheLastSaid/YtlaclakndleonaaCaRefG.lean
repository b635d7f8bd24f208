/- The contract of the document's Get. Condition: the cache lies in memory. -/
import Derived.Test.YtlaclakndleonaaCaDone
namespace Go.Proofs.Ytlaclakndleonaa
open Go.ChangeShapes Go.WideShapes Go.ChangeAt Go.RowKit
set_option linter.unusedVariables false
/-- A new box for a line, laid. -/
theorem box_laid (w : World) (l : LineOf) : LineBox ((w.alloc (.cells (lineC noLine).toArray 42)).setRow w.heap.size (lineC l).toArray) w.heap.size l ∧ Below w.heap.size w ((w.alloc (.cells (lineC noLine).toArray 42)).setRow w.heap.size (lineC l).toArray) ∧
    ((w.alloc (.cells (lineC noLine).toArray 42)).setRow w.heap.size (lineC l).toArray).heap.size = w.heap.size + 1 :=
  ⟨(LineBox.alloc w noLine).set l, below_setRow ((Below.refl _ w).alloc (Nat.le_refl _) _) (Nat.le_refl _) _, by simp⟩
/-- Behind a call within whose frame a new block was laid. -/
theorem RefTo.boxed {w w4 : World} {o : Obj} {B : Nat} {q : Int} {v : Value} {ls ls' : List LineOf} (h : RefC w B q v ls) (hT : RefTo (w.alloc o) w4 B q v ls') (cs : Array Value) : RefTo w (w4.setRow w.heap.size cs) B q v ls' := by
  obtain ⟨v', h1, h2, h3⟩ := hT
  have hs : (w.alloc o).heap.size = w.heap.size + 1 := World.size_alloc _ _
  refine ⟨v', h1.keep (by simp) fun k hk => setRow_other _ _ k _ (fun e => ?_), ?_, fun k hk => ?_⟩
  · subst e
    rcases h3 _ hk with e | e
    · exact absurd (h.own_lt e) (Nat.lt_irrefl _)
    · omega
  · refine ⟨h2.os, h2.tape, h2.output, ?_, fun k hk hn => (setRow_other _ _ k _ (by omega)).trans ((h2.block k (by omega) hn).trans (Below.heap_alloc _ _ _ hk))⟩
    have := h2.size
    simp at this ⊢; omega
  · rcases h3 k hk with e | e
    · exact .inl e
    · exact .inr (by omega)
theorem RefTo.box0 {w w4 : World} {B : Nat} {q : Int} {v : Value} {ls ls' : List LineOf} (h : RefC w B q v ls) (hT : RefTo (w.alloc (.cells (lineC noLine).toArray 42)) w4 B q v ls') : LineBox w4 w.heap.size noLine := by
  obtain ⟨v', h1, h2, h3⟩ := hT
  exact (h2.block w.heap.size (by simp) (fun e => absurd (h.own_lt e) (Nat.lt_irrefl _))).trans (LineBox.alloc w noLine)
/-- The slot says the lines' slice. -/
theorem ref_val {w : World} {B : Nat} {q q' : Int} {v v' : Value} {ls ls' : List LineOf} (h : RefC w B q v ls) (h' : RefC w B q' v' ls') : v = v' := by
  have e := h.c1.symm.trans h'.c1
  exact Option.some.inj e
theorem findZ_neg {ls : List LineOf} {u b : Int} (h : ¬ findL ls u b < ls.length) : findZ ls u b = -1 := by unfold findZ; rw [if_neg h]
theorem findZ_pos {ls : List LineOf} {u b : Int} (h : findL ls u b < ls.length) : findZ ls u b = (findL ls u b : Nat) := by unfold findZ; rw [if_pos h]
theorem got_ok {ls : List LineOf} (h : ∀ l ∈ ls, l.ok) (u b : Int) : (gotL ls u b).ok := by
  unfold gotL; split
  · rename_i hf; exact h _ (lineAt_mem hf)
  · exact noLine_ok
theorem got_mem {ls : List LineOf} {i : Nat} (h : ∀ l ∈ ls, l.ok) (hi : i < ls.length) : ∀ l ∈ outL ls i ++ [lineAt ls i], l.ok := fun l hl => by
  rcases List.mem_append.1 hl with e | e
  · exact h l (mem_out e)
  · obtain rfl : l = lineAt ls i := by simpa using e
    exact h _ (lineAt_mem hi)
attribute [local irreducible] findL outL lineC lineAt
set_option maxRecDepth 100000 in
set_option maxHeartbeats 4000000 in
theorem refGet_any {w : World} {B : Nat} {q : Int} {v : Value} {ls : List LineOf} (h : RefC w B q v ls) (u b : Int) :
    Calls Try.prog 13 #[.pointer (some ⟨B, 0, none⟩), .int .i64 u, .int .i64 b] w fun e w' => e = .returned (.tuple #[lineV (gotL ls u b), .bool (decide (findL ls u b < ls.length))]) ∧ RefTo w w' B q v (getL ls u b) := by
  have HA := Lib.hid (h.below ((Below.refl _ w).alloc (Nat.le_refl _) (.cells (lineC noLine).toArray 42)))
  have HC := Lib.hid h
  have HF := Lib.hid (refFind_any HA.out u b)
  have Y0 := Lib.hid (LineBox.alloc w noLine)
  by_cases hf : findL ls u b < ls.length
  · rw [findZ_pos hf] at HF
    have HO := Lib.hid (refOut_any HA.out (findL ls u b) hf)
    have HLE := Lib.hid (show (outL ls (findL ls u b)).length ≤ 999 from by rw [outL_len hf]; have := h.few; omega)
    have OKL := Lib.hid (got_mem h.ok hf)
    have OFL := Lib.hid (show (outL ls (findL ls u b) ++ [lineAt ls (findL ls u b)]).length ≤ 1000 from by have := HLE.out; simp; omega)
    rw [show gotL ls u b = lineAt ls (findL ls u b) by unfold gotL; rw [if_pos hf], show getL ls u b = outL ls (findL ls u b) ++ [lineAt ls (findL ls u b)] by unfold getL; rw [if_pos hf], decide_eq_true hf]
    clear h hf
    generalize hm : outL ls (findL ls u b) = m at *
    generalize lineAt ls (findL ls u b) = l at *
    generalize findL ls u b = i at *
    have f1 : ¬ ((i : Nat) : Int) < 0 := by omega
    have f2 : decide (((i : Nat) : Int) < 0) = false := by simp
    go_enter Try.func13, Try.ntmps13
    go_wp2_with (first
      | (refine wpList_line_alloc rfl rfl w.heap.size rfl ?_)
      | (go_at_call 27; refine (HF.out).mono ?_; rintro e w1 ⟨rfl, rfl⟩)
      | (go_at_call 28; refine (HO.out).mono ?_; rintro e w1 ⟨rfl, v1, h1, h2, h3⟩
         have H1 := Lib.hid h1
         have T1 := Lib.hid (RefTo.of_out (v := v) h1 h2 h3)
         have L1 := Lib.hid h3
         have BL := Lib.hid (box_laid w1 l)
         clear h1 h2 h3 HO HF)
      | (refine wpList_line_alloc rfl rfl w1.heap.size rfl ?_)
      | (refine store_row_on rfl 42 _ _ rfl rfl w1.heap.size (lineC l).toArray rfl rfl 42 (lineC noLine).toArray (heap_alloc_new _ _) (lineA_size _) (lineA_same _ _) (lineA_one _) ?_))
    have BX := Lib.hid BL.out.1
    have BB := Lib.hid BL.out.2.1
    generalize (w1.alloc (.cells (lineC noLine).toArray 42)).setRow w1.heap.size (lineC l).toArray = w2 at *
    obtain ⟨p1, c1, hv1, -, -, -, -⟩ := H1.out.own.rows elemLine.len
    subst hv1
    have NOB := Lib.hid (show Value.ownBlock (.slice p1 m.length c1) ≠ some w1.heap.size from fun e => absurd (H1.out.own_lt (.inr e)) (Nat.lt_irrefl _))
    have NB := Lib.hid (show w1.heap.size ≠ B from fun e => absurd H1.out.lt (by omega))
    clear BL
    refine wp_region_tree (.float 0 (.float 1 (.float 2 (.float 3 (.float 5 (.two 4 (.one 6 (.one 7 (.float 8 (.float 9 (.one 10 .over))))) 6 (.one 4 (.one 7 (.float 8 (.float 9 (.one 10 .over)))))))))) ) (fun V => LineBox V w1.heap.size l) (by kernel_rfl) (by kernel_rfl) (show LineBox w2.drew w1.heap.size l from BX.out) ?_
    refine tree_float rfl rfl (fun K hK => ?_)
    refine gives_move _ rfl ?_
    go_simp
    refine hK _ ?_
    clear hK K
    refine tree_float rfl rfl (fun K hK => ?_)
    refine gives_move _ rfl ?_
    go_simp
    refine hK _ ?_
    clear hK K
    refine tree_float rfl rfl (fun K hK => ?_)
    refine gives_nil_check _ rfl ⟨B, 0, none⟩ rfl ?_
    go_simp
    refine hK _ ?_
    clear hK K
    refine tree_float rfl rfl (fun K hK => ?_)
    refine gives_cfield _ 1 rfl (by decide) B rfl ?_
    go_simp
    refine hK _ ?_
    clear hK K
    refine tree_float rfl rfl (fun K hK => ?_)
    refine gives_line_load _ rfl w1.heap.size 0 rfl l (fun V hV => LineBox.range hV) ?_
    go_simp
    refine hK _ ?_
    clear hK K
    have BX2 := Lib.hid (show LineBox (w2.drew.alloc (.cells (lineC l).toArray 42)) w1.heap.size l from (show LineBox w2.drew w1.heap.size l from BX.out).below (Below.alloc (Below.refl _ w2.drew) (Nat.le_refl _) _) BX.out.lt)
    have BB2 := Lib.hid (show Below w1.heap.size w1 (w2.drew.alloc (.cells (lineC l).toArray 42)) from (BB.out.drew).alloc BB.out.size _)
    refine tree_two ?_ ?_
    · refine tree_one rfl rfl (fun K hK => ?_)
      refine done_load_box 34 _ rfl ⟨B, 1, none⟩ _ rfl box_lines (H1.out.below BB.out.drew).c1 ?_
      refine ⟨show LineBox w2.drew w1.heap.size l from BX.out, ?_⟩
      go_simp
      refine hK _ _ ?_
      clear hK K
      refine tree_one rfl rfl (fun K hK => ?_)
      refine done_line1 _ rfl l rfl ?_
      refine ⟨BX2.out, ?_⟩
      go_simp
      refine hK _ _ ?_
      clear hK K
      refine tree_one rfl rfl (fun K hK => ?_)
      refine done_append_list elemLine _ _ rfl 0 _ _ m [l] (some ⟨w2.drew.heap.size, 0, none⟩) 1 1 rfl rfl rfl (H1.out.below BB2.out).own (rows_line1 w2.drew l) (by have := HLE.out; simp; omega) (by decide) (Nat.zero_le _) ?_
      intro v5 w5 ho5 hg5 hr5
      have O5 := Lib.hid ho5
      have G5 := Lib.hid hg5
      have R5 := Lib.hid hr5
      clear ho5 hg5 hr5
      have BX3 := Lib.hid (show LineBox w5 w1.heap.size l from (G5.out.block w1.heap.size (Nat.lt_of_lt_of_le BX2.out.lt (Nat.le_refl _)) (fun e => NOB.out e.symm)).trans BX2.out)
      obtain ⟨p5, c5, hv5, -, -, -, -⟩ := O5.out.rows elemLine.len
      generalize List.length _ = n5 at hv5
      subst hv5
      have RT := Lib.hid (ref_app H1.out BB2.out (O5.out) G5.out R5.out OKL.out OFL.out)
      refine ⟨BX3.out, ?_⟩
      go_simp
      refine hK _ _ ?_
      clear hK K
      refine tree_float rfl rfl (fun K hK => ?_)
      refine gives_nil_check _ rfl ⟨B, 0, none⟩ rfl ?_
      go_simp
      refine hK _ ?_
      clear hK K
      refine tree_float rfl rfl (fun K hK => ?_)
      refine gives_cfield _ 1 rfl (by decide) B rfl ?_
      go_simp
      refine hK _ ?_
      clear hK K
      refine tree_one rfl rfl (fun K hK => ?_)
      refine done_store_lines _ _ rfl ⟨B, 1, none⟩ _ p5 n5 c5 rfl rfl rfl _ (cell_of_row _ _ _ _ _ _ RT.out.1) (frozen_of_row _ _ _ _ _ RT.out.1) ?_
      refine ⟨(Below.heap_setCell _ _ _ w1.heap.size (fun e => NB.out e)).trans BX3.out, ?_⟩
      go_simp
      refine hK _ _ ?_
      clear hK K
      refine tree_over ?_
      have T5 := Lib.hid (T1.out.trans fun v1' h1' => by
        obtain rfl : v1' = _ := ref_val h1' H1.out
        exact RT.out.2)
      have Z0 := Lib.hid (RefTo.box0 HC.out T5.out)
      have TB := Lib.hid (RefTo.boxed HC.out T5.out (lineC l).toArray)
      have BX4 := Lib.hid (show LineBox (w5.setCell ⟨B, 1, none⟩ (.slice p5 n5 c5)) w1.heap.size l from (Below.heap_setCell _ _ _ w1.heap.size (fun e => NB.out e)).trans BX3.out)
      generalize w5.setCell ⟨B, 1, none⟩ (.slice p5 n5 c5) = w6 at *
      go_wp2_with (first
        | (refine wpList_line_load rfl _ rfl w1.heap.size 0 rfl l (BX4.out.range) ?_)
        | (refine store_row_on rfl 42 _ _ rfl rfl w.heap.size (lineC l).toArray rfl rfl 42 (lineC noLine).toArray Z0.out (lineA_size _) (lineA_same _ _) (lineA_one _) ?_))
      exact bodyPost_ret (results_cell_row_tmp rfl _ _ w.heap.size 42 (lineC l).toArray (0, 0) _ rfl (Z0.out.set l) Try.underlying42 rfl (lineA_size _)) rfl ⟨rfl, TB.out⟩
    · refine tree_one rfl rfl (fun K hK => ?_)
      refine done_line1 _ rfl l rfl ?_
      refine ⟨BX2.out, ?_⟩
      go_simp
      refine hK _ _ ?_
      clear hK K
      refine tree_one rfl rfl (fun K hK => ?_)
      refine done_load_box 34 _ rfl ⟨B, 1, none⟩ _ rfl box_lines (H1.out.below BB2.out).c1 ?_
      refine ⟨BX2.out, ?_⟩
      go_simp
      refine hK _ _ ?_
      clear hK K
      refine tree_one rfl rfl (fun K hK => ?_)
      refine done_append_list elemLine _ _ rfl 0 _ _ m [l] (some ⟨w2.drew.heap.size, 0, none⟩) 1 1 rfl rfl rfl (H1.out.below BB2.out).own (rows_line1 w2.drew l) (by have := HLE.out; simp; omega) (by decide) (Nat.zero_le _) ?_
      intro v5 w5 ho5 hg5 hr5
      have O5 := Lib.hid ho5
      have G5 := Lib.hid hg5
      have R5 := Lib.hid hr5
      clear ho5 hg5 hr5
      have BX3 := Lib.hid (show LineBox w5 w1.heap.size l from (G5.out.block w1.heap.size (Nat.lt_of_lt_of_le BX2.out.lt (Nat.le_refl _)) (fun e => NOB.out e.symm)).trans BX2.out)
      obtain ⟨p5, c5, hv5, -, -, -, -⟩ := O5.out.rows elemLine.len
      generalize List.length _ = n5 at hv5
      subst hv5
      have RT := Lib.hid (ref_app H1.out BB2.out (O5.out) G5.out R5.out OKL.out OFL.out)
      refine ⟨BX3.out, ?_⟩
      go_simp
      refine hK _ _ ?_
      clear hK K
      refine tree_float rfl rfl (fun K hK => ?_)
      refine gives_nil_check _ rfl ⟨B, 0, none⟩ rfl ?_
      go_simp
      refine hK _ ?_
      clear hK K
      refine tree_float rfl rfl (fun K hK => ?_)
      refine gives_cfield _ 1 rfl (by decide) B rfl ?_
      go_simp
      refine hK _ ?_
      clear hK K
      refine tree_one rfl rfl (fun K hK => ?_)
      refine done_store_lines _ _ rfl ⟨B, 1, none⟩ _ p5 n5 c5 rfl rfl rfl _ (cell_of_row _ _ _ _ _ _ RT.out.1) (frozen_of_row _ _ _ _ _ RT.out.1) ?_
      refine ⟨(Below.heap_setCell _ _ _ w1.heap.size (fun e => NB.out e)).trans BX3.out, ?_⟩
      go_simp
      refine hK _ _ ?_
      clear hK K
      refine tree_over ?_
      have T5 := Lib.hid (T1.out.trans fun v1' h1' => by
        obtain rfl : v1' = _ := ref_val h1' H1.out
        exact RT.out.2)
      have Z0 := Lib.hid (RefTo.box0 HC.out T5.out)
      have TB := Lib.hid (RefTo.boxed HC.out T5.out (lineC l).toArray)
      have BX4 := Lib.hid (show LineBox (w5.setCell ⟨B, 1, none⟩ (.slice p5 n5 c5)) w1.heap.size l from (Below.heap_setCell _ _ _ w1.heap.size (fun e => NB.out e)).trans BX3.out)
      generalize w5.setCell ⟨B, 1, none⟩ (.slice p5 n5 c5) = w6 at *
      go_wp2_with (first
        | (refine wpList_line_load rfl _ rfl w1.heap.size 0 rfl l (BX4.out.range) ?_)
        | (refine store_row_on rfl 42 _ _ rfl rfl w.heap.size (lineC l).toArray rfl rfl 42 (lineC noLine).toArray Z0.out (lineA_size _) (lineA_same _ _) (lineA_one _) ?_))
      exact bodyPost_ret (results_cell_row_tmp rfl _ _ w.heap.size 42 (lineC l).toArray (0, 0) _ rfl (Z0.out.set l) Try.underlying42 rfl (lineA_size _)) rfl ⟨rfl, TB.out⟩
  · rw [findZ_neg hf] at HF
    rw [show gotL ls u b = noLine by unfold gotL; rw [if_neg hf], show getL ls u b = ls by unfold getL; rw [if_neg hf], decide_eq_false hf]
    have TB := Lib.hid (RefTo.boxed HC.out HA.out.self (lineC noLine).toArray)
    clear h hf
    go_enter Try.func13, Try.ntmps13
    go_wp2_with (first
      | (refine wpList_line_alloc rfl rfl w.heap.size rfl ?_)
      | (refine wpList_line_build0 rfl rfl ?_)
      | (go_at_call 27; refine (HF.out).mono ?_; rintro e w1 ⟨rfl, rfl⟩)
      | (refine store_row_on rfl 42 _ _ rfl rfl w.heap.size (lineC noLine).toArray rfl rfl 42 (lineC noLine).toArray Y0.out (lineA_size _) (lineA_same _ _) (lineA_one _) ?_))
    exact bodyPost_ret (results_cell_row_tmp rfl _ _ w.heap.size 42 (lineC noLine).toArray (0, 0) _ rfl (Y0.out.set noLine) Try.underlying42 rfl (lineA_size _)) rfl ⟨rfl, TB.out⟩
end Go.Proofs.Ytlaclakndleonaa

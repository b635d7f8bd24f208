/- The contract of the document's Put. Condition: the cache lies in memory. -/
import Derived.Test.YtlaclakndleonaaCaRefG
namespace Go.Proofs.Ytlaclakndleonaa
open Go.ChangeShapes Go.WideShapes Go.ChangeAt Go.RowKit
set_option linter.unusedVariables false
theorem lineC_setD (l : LineOf) (b : Bool) : (lineC l).toArray.setIfInBounds 130 (.bool b) = (lineC { l with d := b }).toArray := by
  apply Array.ext'
  rw [Array.toList_setIfInBounds]
  show (lineC l).set 130 (.bool b) = _
  unfold lineC
  show Value.int .i64 l.u :: Value.int .i64 l.b :: ((secC l.c ++ [Value.bool l.d]).set 128 (.bool b)) = _
  rw [List.set_append_right _ _ (by rw [secC_len]; omega), secC_len]
  rfl
theorem LineBox.setD {W : World} {O : Nat} {l : LineOf} (h : LineBox W O l) (b : Bool) : LineBox (W.setCell ⟨O, 130, none⟩ (.bool b)) O { l with d := b } := by
  have := heap_setCell_same W O 130 _ _ (.bool b) h
  rw [lineC_setD] at this
  exact this
theorem RefTo.outer {w w1 : World} {o : Obj} {B : Nat} {q : Int} {v : Value} {ls' : List LineOf} (hT : RefTo (w.alloc o) w1 B q v ls') : RefTo w w1 B q v ls' := by
  obtain ⟨v', h1, h2, h3⟩ := hT
  have hs : (w.alloc o).heap.size = w.heap.size + 1 := World.size_alloc _ _
  refine ⟨v', h1, ⟨h2.os, h2.tape, h2.output, ?_, fun k hk hn => (h2.block k (by omega) hn).trans (Below.heap_alloc _ _ _ hk)⟩, fun k hk => ?_⟩
  · have := h2.size
    omega
  · rcases h3 k hk with e | e
    · exact .inl e
    · exact .inr (by omega)
theorem RefTo.on {S : Nat → Prop} {w w1 w3 : World} {B : Nat} {q : Int} {v v1 : Value} {m : List LineOf} (hT : RefTo w w1 B q v m) (h1 : RefC w1 B q v1 m) (hk : Keeps S w1 w3) (hS : ∀ k, S k → w.heap.size ≤ k) (hO : ∀ k, refS B v1 k → ¬ S k) : RefTo w w3 B q v m := by
  obtain ⟨v', k1, k2, k3⟩ := hT
  obtain rfl : v' = v1 := ref_val k1 h1
  exact ⟨v', k1.keeps hk hO, k2.trans' ⟨hk.os, hk.tape, hk.output, hk.size, fun k hk' hn => hk.block k (Nat.lt_of_lt_of_le hk' k2.size) (fun e => by have := hS k e; omega)⟩, k3⟩
theorem cleanL_le (ls : List LineOf) : cleanL ls ≤ ls.length := idx_le ls
theorem put_ok {ls : List LineOf} {l : LineOf} {i : Nat} (h : ∀ l ∈ ls, l.ok) (hl : l.ok) : ∀ x ∈ outL ls i ++ [l], x.ok := fun x hx => by
  rcases List.mem_append.1 hx with e | e
  · exact h x (mem_out e)
  · obtain rfl : x = l := by simpa using e
    exact hl
theorem put_ok' {ls : List LineOf} {l : LineOf} (h : ∀ l ∈ ls, l.ok) (hl : l.ok) : ∀ x ∈ ls ++ [l], x.ok := fun x hx => by
  rcases List.mem_append.1 hx with e | e
  · exact h x e
  · obtain rfl : x = l := by simpa using e
    exact hl
attribute [local irreducible] findL cleanL outL lineC lineAt
set_option maxRecDepth 100000 in
set_option maxHeartbeats 8000000 in
theorem refPut_any {w : World} {B : Nat} {q : Int} {v : Value} {ls : List LineOf} (h : RefC w B q v ls) (l : LineOf) (hl : l.ok) (hle : ls.length ≤ 999) :
    Calls Try.prog 17 #[.pointer (some ⟨B, 0, none⟩), lineV l] w fun e w' => e = .returned (.int .i64 (putN q ls l)) ∧ RefTo w w' B q v (putS q ls l) := by
  have HA := Lib.hid (h.below ((Below.refl _ w).alloc (Nat.le_refl _) (.cells (lineC l).toArray 42)))
  have HC := Lib.hid h
  have HF := Lib.hid (refFind_any HA.out l.u l.b)
  have BX0 := Lib.hid (LineBox.alloc w l)
  have k0 := BX0.out.cell 0
  have k1 := BX0.out.cell 1
  rw [lineC_0] at k0
  rw [lineC_1] at k1
  have HL := Lib.hid hl
  have NB := Lib.hid (show w.heap.size ≠ B from fun e => absurd h.lt (by omega))
  unfold putN putS
  by_cases hf : findL ls l.u l.b < ls.length
  · rw [findZ_pos hf] at HF
    have HO := Lib.hid (refOut_any HA.out (findL ls l.u l.b) hf)
    have HLE := Lib.hid (show (outL ls (findL ls l.u l.b)).length ≤ 999 from by rw [outL_len hf]; omega)
    have OKL := Lib.hid (show ∀ x ∈ outL ls (findL ls l.u l.b) ++ [{ l with d := l.d || (lineAt ls (findL ls l.u l.b)).d }], x.ok from put_ok h.ok hl)
    have OFL := Lib.hid (show (outL ls (findL ls l.u l.b) ++ [{ l with d := l.d || (lineAt ls (findL ls l.u l.b)).d }]).length ≤ 1000 from by have := HLE.out; simp; omega)
    rw [if_pos hf, if_pos hf]
    clear h hf hl hle
    generalize outL ls (findL ls l.u l.b) = m at *
    generalize lineAt ls (findL ls l.u l.b) = l1 at *
    generalize findL ls l.u l.b = i at *
    obtain ⟨l', hl'⟩ : ∃ x : LineOf, { l with d := l.d || l1.d } = x := ⟨_, rfl⟩
    rw [hl'] at OKL OFL ⊢
    have f1 : (0 : Int) ≤ ((i : Nat) : Int) := by omega
    have f2 : decide ((0 : Int) ≤ ((i : Nat) : Int)) = true := by simp
    cases hd : l.d with
    | true =>
      have HL' := Lib.hid (show { l with d := true } = l' from by rw [← hl', hd]; rfl)
      clear hl'
      show Calls Try.prog 17 #[.pointer (some ⟨B, 0, none⟩), .agg (lineC l).toArray] w _
      go_enter Try.func17, Try.ntmps17
      go_wp2_with (first
        | (go_at_call 27; refine (HF.out).mono ?_; rintro e w1 ⟨rfl, rfl⟩)
        | (go_at_call 28; refine (HO.out).mono ?_; rintro e w1 ⟨rfl, v1, h1, h2, h3⟩
           have H1 := Lib.hid h1
           have T1 := Lib.hid (RefTo.outer (RefTo.of_out (v := v) h1 h2 h3))
           have L1 := Lib.hid (show ∀ k, v1.ownBlock = some k → w.heap.size + 1 ≤ k from fun k hk => by have := h3 k hk; rwa [World.size_alloc] at this)
           have BXA := Lib.hid (show LineBox w1 w.heap.size l from (h2.block w.heap.size (by simp) (fun e => NB.out e)).trans BX0.out)
           have S1 := Lib.hid (show w.heap.size + 1 ≤ w1.heap.size from by have := h2.size; rwa [World.size_alloc] at this)
           have BL := Lib.hid (box_laid w1 l1)
           clear h1 h2 h3 HO HF BX0 k0 k1)
        | (refine wpList_line_alloc rfl rfl w1.heap.size rfl ?_)
        | (refine store_row_on rfl 42 _ _ rfl rfl w1.heap.size (lineC l1).toArray rfl rfl 42 (lineC noLine).toArray (heap_alloc_new _ _) (lineA_size _) (lineA_same _ _) (lineA_one _) ?_
           have BXB := Lib.hid BL.out.1
           have BB := Lib.hid BL.out.2.1
           generalize (w1.alloc (.cells (lineC noLine).toArray 42)).setRow w1.heap.size (lineC l1).toArray = w2 at *
           have kd := (BXA.out.below BB.out BXA.out.lt).cell 130
           rw [lineC_d, hd] at kd
           have fd : w2.frozen? ⟨w.heap.size, 130, none⟩ = false := (BXA.out.below BB.out BXA.out.lt).free 130
           have ke := BXB.out.cell 130
           rw [lineC_d] at ke
           clear BL))
      have BX := Lib.hid (show LineBox (w2.setCell ⟨w.heap.size, 130, none⟩ (.bool true)) w.heap.size l' from HL'.out ▸ (BXA.out.below BB.out BXA.out.lt).setD true)
      obtain ⟨p1, c1, hv1, -, -, -, -⟩ := H1.out.own.rows elemLine.len
      generalize List.length _ = n1 at hv1
      subst hv1
      have NOB := Lib.hid (show Value.ownBlock (.slice p1 n1 c1) ≠ some w.heap.size from fun e => by have := L1.out _ e; omega)
      have K3 := Lib.hid (show Keeps (fun k => k = w.heap.size) w1 (w2.setCell ⟨w.heap.size, 130, none⟩ (.bool true)) from Keeps.setCell (S := fun k => k = w.heap.size) (Keeps.of BB.out) (B := w.heap.size) rfl 130 _)
      have HN3 := Lib.hid (show ∀ k, refS B (.slice p1 n1 c1) k → ¬ k = w.heap.size from fun k hk e => by
        rcases hk with e' | e'
        · exact NB.out (e.symm.trans e')
        · have := L1.out _ e'; omega)
      have HH := Lib.hid (H1.out.keeps K3.out HN3.out)
      have TT := Lib.hid (RefTo.on T1.out H1.out K3.out (fun k e => by omega) HN3.out)
      clear kd fd ke hd
      generalize w2.setCell ⟨w.heap.size, 130, none⟩ (.bool true) = w3 at *
      have BBW := Lib.hid (Below.refl w3.heap.size w3)
      refine wp_region_tree (.float 0 (.float 1 (.float 2 (.float 3 (.float 5 (.two 4 (.one 6 (.one 7 (.float 8 (.float 9 (.one 10 .over))))) 6 (.one 4 (.one 7 (.float 8 (.float 9 (.one 10 .over)))))))))) ) (fun V => LineBox V w.heap.size l') (by kernel_rfl) (by kernel_rfl) (show LineBox w3.drew w.heap.size l' from BX.out) ?_
      refine tree_float rfl rfl (fun K hK => ?_)
      refine gives_move _ rfl ?_
      go_simp
      refine hK _ ?_
      clear hK K
      refine tree_float rfl rfl (fun K hK => ?_)
      refine gives_move _ rfl ?_
      go_simp
      refine hK _ ?_
      clear hK K
      refine tree_float rfl rfl (fun K hK => ?_)
      refine gives_nil_check _ rfl ⟨B, 0, none⟩ rfl ?_
      go_simp
      refine hK _ ?_
      clear hK K
      refine tree_float rfl rfl (fun K hK => ?_)
      refine gives_cfield _ 1 rfl (by decide) B rfl ?_
      go_simp
      refine hK _ ?_
      clear hK K
      refine tree_float rfl rfl (fun K hK => ?_)
      refine gives_line_load _ rfl w.heap.size 0 rfl l' (fun V hV => LineBox.range hV) ?_
      go_simp
      refine hK _ ?_
      clear hK K
      have BX2 := Lib.hid (show LineBox (w3.drew.alloc (.cells (lineC l').toArray 42)) w.heap.size l' from (show LineBox w3.drew w.heap.size l' from BX.out).below (Below.alloc (Below.refl _ w3.drew) (Nat.le_refl _) _) BX.out.lt)
      have BB2 := Lib.hid (show Below w3.heap.size w3 (w3.drew.alloc (.cells (lineC l').toArray 42)) from (BBW.out.drew).alloc BBW.out.size _)
      refine tree_two ?_ ?_
      · refine tree_one rfl rfl (fun K hK => ?_)
        refine done_load_box 34 _ rfl ⟨B, 1, none⟩ _ rfl box_lines (HH.out.below BBW.out.drew).c1 ?_
        refine ⟨show LineBox w3.drew w.heap.size l' from BX.out, ?_⟩
        go_simp
        refine hK _ _ ?_
        clear hK K
        refine tree_one rfl rfl (fun K hK => ?_)
        refine done_line1 _ rfl l' rfl ?_
        refine ⟨BX2.out, ?_⟩
        go_simp
        refine hK _ _ ?_
        clear hK K
        refine tree_one rfl rfl (fun K hK => ?_)
        refine done_append_list elemLine _ _ rfl 0 _ _ m [l'] (some ⟨w3.drew.heap.size, 0, none⟩) 1 1 rfl rfl rfl (HH.out.below BB2.out).own (rows_line1 w3.drew l') (by have := HLE.out; simp; omega) (by decide) (Nat.zero_le _) ?_
        intro v5 w5 ho5 hg5 hr5
        have O5 := Lib.hid ho5
        have G5 := Lib.hid hg5
        have R5 := Lib.hid hr5
        clear ho5 hg5 hr5
        have BX3 := Lib.hid (show LineBox w5 w.heap.size l' from (G5.out.block w.heap.size (Nat.lt_of_lt_of_le BX2.out.lt (Nat.le_refl _)) (fun e => NOB.out e.symm)).trans BX2.out)
        obtain ⟨p5, c5, hv5, -, -, -, -⟩ := O5.out.rows elemLine.len
        generalize List.length _ = n5 at hv5
        subst hv5
        have RT := Lib.hid (ref_app HH.out BB2.out (O5.out) G5.out R5.out OKL.out OFL.out)
        refine ⟨BX3.out, ?_⟩
        go_simp
        refine hK _ _ ?_
        clear hK K
        refine tree_float rfl rfl (fun K hK => ?_)
        refine gives_nil_check _ rfl ⟨B, 0, none⟩ rfl ?_
        go_simp
        refine hK _ ?_
        clear hK K
        refine tree_float rfl rfl (fun K hK => ?_)
        refine gives_cfield _ 1 rfl (by decide) B rfl ?_
        go_simp
        refine hK _ ?_
        clear hK K
        refine tree_one rfl rfl (fun K hK => ?_)
        refine done_store_lines _ _ rfl ⟨B, 1, none⟩ _ p5 n5 c5 rfl rfl rfl _ (cell_of_row _ _ _ _ _ _ RT.out.1) (frozen_of_row _ _ _ _ _ RT.out.1) ?_
        refine ⟨(Below.heap_setCell _ _ _ w.heap.size (fun e => NB.out e)).trans BX3.out, ?_⟩
        go_simp
        refine hK _ _ ?_
        clear hK K
        refine tree_over ?_
        have TE := Lib.hid (TT.out.trans fun v1' h1' => by
          obtain rfl : v1' = _ := ref_val h1' HH.out
          exact RT.out.2)
        clear RT TT HH
        generalize w5.setCell ⟨B, 1, none⟩ (.slice p5 n5 c5) = w6 at *
        go_wp2
        go_ret
        exact ⟨rfl, TE.out⟩
      · refine tree_one rfl rfl (fun K hK => ?_)
        refine done_line1 _ rfl l' rfl ?_
        refine ⟨BX2.out, ?_⟩
        go_simp
        refine hK _ _ ?_
        clear hK K
        refine tree_one rfl rfl (fun K hK => ?_)
        refine done_load_box 34 _ rfl ⟨B, 1, none⟩ _ rfl box_lines (HH.out.below BB2.out).c1 ?_
        refine ⟨BX2.out, ?_⟩
        go_simp
        refine hK _ _ ?_
        clear hK K
        refine tree_one rfl rfl (fun K hK => ?_)
        refine done_append_list elemLine _ _ rfl 0 _ _ m [l'] (some ⟨w3.drew.heap.size, 0, none⟩) 1 1 rfl rfl rfl (HH.out.below BB2.out).own (rows_line1 w3.drew l') (by have := HLE.out; simp; omega) (by decide) (Nat.zero_le _) ?_
        intro v5 w5 ho5 hg5 hr5
        have O5 := Lib.hid ho5
        have G5 := Lib.hid hg5
        have R5 := Lib.hid hr5
        clear ho5 hg5 hr5
        have BX3 := Lib.hid (show LineBox w5 w.heap.size l' from (G5.out.block w.heap.size (Nat.lt_of_lt_of_le BX2.out.lt (Nat.le_refl _)) (fun e => NOB.out e.symm)).trans BX2.out)
        obtain ⟨p5, c5, hv5, -, -, -, -⟩ := O5.out.rows elemLine.len
        generalize List.length _ = n5 at hv5
        subst hv5
        have RT := Lib.hid (ref_app HH.out BB2.out (O5.out) G5.out R5.out OKL.out OFL.out)
        refine ⟨BX3.out, ?_⟩
        go_simp
        refine hK _ _ ?_
        clear hK K
        refine tree_float rfl rfl (fun K hK => ?_)
        refine gives_nil_check _ rfl ⟨B, 0, none⟩ rfl ?_
        go_simp
        refine hK _ ?_
        clear hK K
        refine tree_float rfl rfl (fun K hK => ?_)
        refine gives_cfield _ 1 rfl (by decide) B rfl ?_
        go_simp
        refine hK _ ?_
        clear hK K
        refine tree_one rfl rfl (fun K hK => ?_)
        refine done_store_lines _ _ rfl ⟨B, 1, none⟩ _ p5 n5 c5 rfl rfl rfl _ (cell_of_row _ _ _ _ _ _ RT.out.1) (frozen_of_row _ _ _ _ _ RT.out.1) ?_
        refine ⟨(Below.heap_setCell _ _ _ w.heap.size (fun e => NB.out e)).trans BX3.out, ?_⟩
        go_simp
        refine hK _ _ ?_
        clear hK K
        refine tree_over ?_
        have TE := Lib.hid (TT.out.trans fun v1' h1' => by
          obtain rfl : v1' = _ := ref_val h1' HH.out
          exact RT.out.2)
        clear RT TT HH
        generalize w5.setCell ⟨B, 1, none⟩ (.slice p5 n5 c5) = w6 at *
        go_wp2
        go_ret
        exact ⟨rfl, TE.out⟩
    | false =>
      have HL' := Lib.hid (show { l with d := l1.d } = l' from by rw [← hl', hd]; rfl)
      clear hl'
      show Calls Try.prog 17 #[.pointer (some ⟨B, 0, none⟩), .agg (lineC l).toArray] w _
      go_enter Try.func17, Try.ntmps17
      go_wp2_with (first
        | (go_at_call 27; refine (HF.out).mono ?_; rintro e w1 ⟨rfl, rfl⟩)
        | (go_at_call 28; refine (HO.out).mono ?_; rintro e w1 ⟨rfl, v1, h1, h2, h3⟩
           have H1 := Lib.hid h1
           have T1 := Lib.hid (RefTo.outer (RefTo.of_out (v := v) h1 h2 h3))
           have L1 := Lib.hid (show ∀ k, v1.ownBlock = some k → w.heap.size + 1 ≤ k from fun k hk => by have := h3 k hk; rwa [World.size_alloc] at this)
           have BXA := Lib.hid (show LineBox w1 w.heap.size l from (h2.block w.heap.size (by simp) (fun e => NB.out e)).trans BX0.out)
           have S1 := Lib.hid (show w.heap.size + 1 ≤ w1.heap.size from by have := h2.size; rwa [World.size_alloc] at this)
           have BL := Lib.hid (box_laid w1 l1)
           clear h1 h2 h3 HO HF BX0 k0 k1)
        | (refine wpList_line_alloc rfl rfl w1.heap.size rfl ?_)
        | (refine store_row_on rfl 42 _ _ rfl rfl w1.heap.size (lineC l1).toArray rfl rfl 42 (lineC noLine).toArray (heap_alloc_new _ _) (lineA_size _) (lineA_same _ _) (lineA_one _) ?_
           have BXB := Lib.hid BL.out.1
           have BB := Lib.hid BL.out.2.1
           generalize (w1.alloc (.cells (lineC noLine).toArray 42)).setRow w1.heap.size (lineC l1).toArray = w2 at *
           have kd := (BXA.out.below BB.out BXA.out.lt).cell 130
           rw [lineC_d, hd] at kd
           have fd : w2.frozen? ⟨w.heap.size, 130, none⟩ = false := (BXA.out.below BB.out BXA.out.lt).free 130
           have ke := BXB.out.cell 130
           rw [lineC_d] at ke
           clear BL))
      have BX := Lib.hid (show LineBox (w2.setCell ⟨w.heap.size, 130, none⟩ (.bool l1.d)) w.heap.size l' from HL'.out ▸ (BXA.out.below BB.out BXA.out.lt).setD l1.d)
      obtain ⟨p1, c1, hv1, -, -, -, -⟩ := H1.out.own.rows elemLine.len
      generalize List.length _ = n1 at hv1
      subst hv1
      have NOB := Lib.hid (show Value.ownBlock (.slice p1 n1 c1) ≠ some w.heap.size from fun e => by have := L1.out _ e; omega)
      have K3 := Lib.hid (show Keeps (fun k => k = w.heap.size) w1 (w2.setCell ⟨w.heap.size, 130, none⟩ (.bool l1.d)) from Keeps.setCell (S := fun k => k = w.heap.size) (Keeps.of BB.out) (B := w.heap.size) rfl 130 _)
      have HN3 := Lib.hid (show ∀ k, refS B (.slice p1 n1 c1) k → ¬ k = w.heap.size from fun k hk e => by
        rcases hk with e' | e'
        · exact NB.out (e.symm.trans e')
        · have := L1.out _ e'; omega)
      have HH := Lib.hid (H1.out.keeps K3.out HN3.out)
      have TT := Lib.hid (RefTo.on T1.out H1.out K3.out (fun k e => by omega) HN3.out)
      clear kd fd ke hd
      generalize w2.setCell ⟨w.heap.size, 130, none⟩ (.bool l1.d) = w3 at *
      have BBW := Lib.hid (Below.refl w3.heap.size w3)
      refine wp_region_tree (.float 0 (.float 1 (.float 2 (.float 3 (.float 5 (.two 4 (.one 6 (.one 7 (.float 8 (.float 9 (.one 10 .over))))) 6 (.one 4 (.one 7 (.float 8 (.float 9 (.one 10 .over)))))))))) ) (fun V => LineBox V w.heap.size l') (by kernel_rfl) (by kernel_rfl) (show LineBox w3.drew w.heap.size l' from BX.out) ?_
      refine tree_float rfl rfl (fun K hK => ?_)
      refine gives_move _ rfl ?_
      go_simp
      refine hK _ ?_
      clear hK K
      refine tree_float rfl rfl (fun K hK => ?_)
      refine gives_move _ rfl ?_
      go_simp
      refine hK _ ?_
      clear hK K
      refine tree_float rfl rfl (fun K hK => ?_)
      refine gives_nil_check _ rfl ⟨B, 0, none⟩ rfl ?_
      go_simp
      refine hK _ ?_
      clear hK K
      refine tree_float rfl rfl (fun K hK => ?_)
      refine gives_cfield _ 1 rfl (by decide) B rfl ?_
      go_simp
      refine hK _ ?_
      clear hK K
      refine tree_float rfl rfl (fun K hK => ?_)
      refine gives_line_load _ rfl w.heap.size 0 rfl l' (fun V hV => LineBox.range hV) ?_
      go_simp
      refine hK _ ?_
      clear hK K
      have BX2 := Lib.hid (show LineBox (w3.drew.alloc (.cells (lineC l').toArray 42)) w.heap.size l' from (show LineBox w3.drew w.heap.size l' from BX.out).below (Below.alloc (Below.refl _ w3.drew) (Nat.le_refl _) _) BX.out.lt)
      have BB2 := Lib.hid (show Below w3.heap.size w3 (w3.drew.alloc (.cells (lineC l').toArray 42)) from (BBW.out.drew).alloc BBW.out.size _)
      refine tree_two ?_ ?_
      · refine tree_one rfl rfl (fun K hK => ?_)
        refine done_load_box 34 _ rfl ⟨B, 1, none⟩ _ rfl box_lines (HH.out.below BBW.out.drew).c1 ?_
        refine ⟨show LineBox w3.drew w.heap.size l' from BX.out, ?_⟩
        go_simp
        refine hK _ _ ?_
        clear hK K
        refine tree_one rfl rfl (fun K hK => ?_)
        refine done_line1 _ rfl l' rfl ?_
        refine ⟨BX2.out, ?_⟩
        go_simp
        refine hK _ _ ?_
        clear hK K
        refine tree_one rfl rfl (fun K hK => ?_)
        refine done_append_list elemLine _ _ rfl 0 _ _ m [l'] (some ⟨w3.drew.heap.size, 0, none⟩) 1 1 rfl rfl rfl (HH.out.below BB2.out).own (rows_line1 w3.drew l') (by have := HLE.out; simp; omega) (by decide) (Nat.zero_le _) ?_
        intro v5 w5 ho5 hg5 hr5
        have O5 := Lib.hid ho5
        have G5 := Lib.hid hg5
        have R5 := Lib.hid hr5
        clear ho5 hg5 hr5
        have BX3 := Lib.hid (show LineBox w5 w.heap.size l' from (G5.out.block w.heap.size (Nat.lt_of_lt_of_le BX2.out.lt (Nat.le_refl _)) (fun e => NOB.out e.symm)).trans BX2.out)
        obtain ⟨p5, c5, hv5, -, -, -, -⟩ := O5.out.rows elemLine.len
        generalize List.length _ = n5 at hv5
        subst hv5
        have RT := Lib.hid (ref_app HH.out BB2.out (O5.out) G5.out R5.out OKL.out OFL.out)
        refine ⟨BX3.out, ?_⟩
        go_simp
        refine hK _ _ ?_
        clear hK K
        refine tree_float rfl rfl (fun K hK => ?_)
        refine gives_nil_check _ rfl ⟨B, 0, none⟩ rfl ?_
        go_simp
        refine hK _ ?_
        clear hK K
        refine tree_float rfl rfl (fun K hK => ?_)
        refine gives_cfield _ 1 rfl (by decide) B rfl ?_
        go_simp
        refine hK _ ?_
        clear hK K
        refine tree_one rfl rfl (fun K hK => ?_)
        refine done_store_lines _ _ rfl ⟨B, 1, none⟩ _ p5 n5 c5 rfl rfl rfl _ (cell_of_row _ _ _ _ _ _ RT.out.1) (frozen_of_row _ _ _ _ _ RT.out.1) ?_
        refine ⟨(Below.heap_setCell _ _ _ w.heap.size (fun e => NB.out e)).trans BX3.out, ?_⟩
        go_simp
        refine hK _ _ ?_
        clear hK K
        refine tree_over ?_
        have TE := Lib.hid (TT.out.trans fun v1' h1' => by
          obtain rfl : v1' = _ := ref_val h1' HH.out
          exact RT.out.2)
        clear RT TT HH
        generalize w5.setCell ⟨B, 1, none⟩ (.slice p5 n5 c5) = w6 at *
        go_wp2
        go_ret
        exact ⟨rfl, TE.out⟩
      · refine tree_one rfl rfl (fun K hK => ?_)
        refine done_line1 _ rfl l' rfl ?_
        refine ⟨BX2.out, ?_⟩
        go_simp
        refine hK _ _ ?_
        clear hK K
        refine tree_one rfl rfl (fun K hK => ?_)
        refine done_load_box 34 _ rfl ⟨B, 1, none⟩ _ rfl box_lines (HH.out.below BB2.out).c1 ?_
        refine ⟨BX2.out, ?_⟩
        go_simp
        refine hK _ _ ?_
        clear hK K
        refine tree_one rfl rfl (fun K hK => ?_)
        refine done_append_list elemLine _ _ rfl 0 _ _ m [l'] (some ⟨w3.drew.heap.size, 0, none⟩) 1 1 rfl rfl rfl (HH.out.below BB2.out).own (rows_line1 w3.drew l') (by have := HLE.out; simp; omega) (by decide) (Nat.zero_le _) ?_
        intro v5 w5 ho5 hg5 hr5
        have O5 := Lib.hid ho5
        have G5 := Lib.hid hg5
        have R5 := Lib.hid hr5
        clear ho5 hg5 hr5
        have BX3 := Lib.hid (show LineBox w5 w.heap.size l' from (G5.out.block w.heap.size (Nat.lt_of_lt_of_le BX2.out.lt (Nat.le_refl _)) (fun e => NOB.out e.symm)).trans BX2.out)
        obtain ⟨p5, c5, hv5, -, -, -, -⟩ := O5.out.rows elemLine.len
        generalize List.length _ = n5 at hv5
        subst hv5
        have RT := Lib.hid (ref_app HH.out BB2.out (O5.out) G5.out R5.out OKL.out OFL.out)
        refine ⟨BX3.out, ?_⟩
        go_simp
        refine hK _ _ ?_
        clear hK K
        refine tree_float rfl rfl (fun K hK => ?_)
        refine gives_nil_check _ rfl ⟨B, 0, none⟩ rfl ?_
        go_simp
        refine hK _ ?_
        clear hK K
        refine tree_float rfl rfl (fun K hK => ?_)
        refine gives_cfield _ 1 rfl (by decide) B rfl ?_
        go_simp
        refine hK _ ?_
        clear hK K
        refine tree_one rfl rfl (fun K hK => ?_)
        refine done_store_lines _ _ rfl ⟨B, 1, none⟩ _ p5 n5 c5 rfl rfl rfl _ (cell_of_row _ _ _ _ _ _ RT.out.1) (frozen_of_row _ _ _ _ _ RT.out.1) ?_
        refine ⟨(Below.heap_setCell _ _ _ w.heap.size (fun e => NB.out e)).trans BX3.out, ?_⟩
        go_simp
        refine hK _ _ ?_
        clear hK K
        refine tree_over ?_
        have TE := Lib.hid (TT.out.trans fun v1' h1' => by
          obtain rfl : v1' = _ := ref_val h1' HH.out
          exact RT.out.2)
        clear RT TT HH
        generalize w5.setCell ⟨B, 1, none⟩ (.slice p5 n5 c5) = w6 at *
        go_wp2
        go_ret
        exact ⟨rfl, TE.out⟩
  · rw [findZ_neg hf] at HF
    rw [if_neg hf, if_neg hf]
    clear hf
    obtain ⟨p, c, hv0, -, -, hr, -⟩ := h.own.rows elemLine.len
    subst hv0
    have HR := Lib.hid (hr.below ((Below.refl _ w).alloc (Nat.le_refl _) (.cells (lineC l).toArray 42)))
    have HF9 := Lib.hid hle
    have HN := Lib.hid (show ∀ i, i < ls.length → i ≤ cleanL ls → (lineAt ls i).d = true → i + 1 ≤ cleanL ls from fun i h1 h2 h3 => by unfold cleanL at h2 ⊢; exact idx_next h1 h2 (by rw [h3]; rfl))
    have HHE := Lib.hid (show ∀ i, i < ls.length → i ≤ cleanL ls → (lineAt ls i).d = false → cleanL ls = i from fun i h1 h2 h3 => by unfold cleanL at h2 ⊢; exact idx_here h1 h2 (by rw [h3]; rfl))
    have HLEN := Lib.hid (cleanL_le ls)
    have HAD := Lib.hid HA.out.drew
    have HRD := Lib.hid (show RowsAt 131 lineC (w.alloc (.cells (lineC l).toArray 42)).drew p ls from HR.out)
    have BXD := Lib.hid (show LineBox (w.alloc (.cells (lineC l).toArray 42)).drew w.heap.size l from BX0.out)
    have TD := Lib.hid (show RefTo w (w.alloc (.cells (lineC l).toArray 42)).drew B q (.slice p ls.length c) ls from ⟨_, HAD.out, Keeps.of (((Below.refl _ w).alloc (Nat.le_refl _) _).drew), fun k hk => .inl hk⟩)
    have SZD := Lib.hid (show (w.alloc (.cells (lineC l).toArray 42)).drew.heap.size = w.heap.size + 1 from World.size_alloc _ _)
    have NV := Lib.hid (show ∀ k, Value.ownBlock (.slice p ls.length c) = some k → k < w.heap.size from fun k hk => h.own_lt (.inr hk))
    have HLS := Lib.hid h.ok
    clear h hr hle hl HR
    generalize hn : ls.length = n at *
    by_cases hq : q ≤ (n : Int)
    · have dq : decide (q ≤ (n : Int)) = true := by simp [hq]
      rw [if_pos hq, if_pos hq]
      obtain ⟨N, hN⟩ : ∃ x : Int, (if cleanL ls < n then 0 else 7) = x := ⟨_, rfl⟩
      obtain ⟨SS, hS⟩ : ∃ x : List LineOf, (if cleanL ls < n then outL ls (cleanL ls) ++ [l] else ls) = x := ⟨_, rfl⟩
      rw [hN, hS]
      have HNN := Lib.hid hN
      have HSS := Lib.hid hS
      clear hq hN hS
      show Calls Try.prog 17 #[.pointer (some ⟨B, 0, none⟩), .agg (lineC l).toArray] w _
      go_enter Try.func17, Try.ntmps17
      go_wp2_with (first
        | (go_at_call 27; refine (HF.out).mono ?_; rintro e w1 ⟨rfl, rfl⟩))
      refine wp_region_sched [(0, true), (1, true), (2, true), (3, true), (4, true), (5, true), (6, true), (7, true), (8, true), (9, true)] (fun V => RefC V B q (.slice p n c) ls) (by kernel_rfl) (by kernel_rfl) HAD.out ?_
      refine walk_float rfl rfl (fun K hK => ?_)
      refine gives_move _ rfl ?_
      go_simp
      refine hK _ ?_
      clear hK K
      refine walk_float rfl rfl (fun K hK => ?_)
      refine gives_nil_check _ rfl ⟨B, 0, none⟩ rfl ?_
      go_simp
      refine hK _ ?_
      clear hK K
      refine walk_float rfl rfl (fun K hK => ?_)
      refine gives_cfield _ 1 rfl (by decide) B rfl ?_
      go_simp
      refine hK _ ?_
      clear hK K
      refine walk_float rfl rfl (fun K hK => ?_)
      refine gives_cell 34 _ rfl ⟨B, 1, none⟩ _ rfl box_lines (fun V hV => RefC.c1 hV) ?_
      go_simp
      refine hK _ ?_
      clear hK K
      refine walk_float rfl rfl (fun K hK => ?_)
      refine gives_len_lines _ rfl p n c rfl ?_
      go_simp
      refine hK _ ?_
      clear hK K
      refine walk_float rfl rfl (fun K hK => ?_)
      refine gives_move _ rfl ?_
      go_simp
      refine hK _ ?_
      clear hK K
      refine walk_float rfl rfl (fun K hK => ?_)
      refine gives_nil_check _ rfl ⟨B, 0, none⟩ rfl ?_
      go_simp
      refine hK _ ?_
      clear hK K
      refine walk_float rfl rfl (fun K hK => ?_)
      refine gives_cfield _ 0 rfl (by decide) B rfl ?_
      go_simp
      refine hK _ ?_
      clear hK K
      refine walk_float rfl rfl (fun K hK => ?_)
      refine gives_cell 3 _ rfl ⟨B, 0, none⟩ _ rfl box_int (fun V hV => RefC.c0 hV) ?_
      go_simp
      refine hK _ ?_
      clear hK K
      refine walk_float rfl rfl (fun K hK => ?_)
      refine gives_int_atleast _ _ rfl (n : Nat) q rfl rfl _ dq ?_
      go_simp
      refine hK _ ?_
      clear hK K
      refine walk_nil ?_
      generalize (w.alloc (.cells (lineC l).toArray 42)).drew = wd at *
      clear HF HA BX0 k0 k1 dq
      go_wp2
      go_loopw [7] (fun v7 wr => ∃ k : Nat, k ≤ n ∧ v7 = .int .i64 k ∧ k ≤ cleanL ls ∧ wr = wd) (fun v7 _ => n - (intOf v7).toNat)
      case atStart => exact ⟨0, Nat.zero_le _, rfl, Nat.zero_le _, rfl⟩
      case round =>
        obtain ⟨k, hk, rfl, hf, rfl⟩ := hrel
        have c1 := HAD.out.c1
        by_cases hlt : k < n
        · obtain ⟨LB, o, rfl, hB, hrg⟩ := line_rows HRD.out (show k < ls.length by omega)
          have HLT := Lib.hid hlt
          have f1 : (k : Int) < (n : Int) := by omega
          have f3 : IntKind.i64.wrap ((k : Int) + 1) = ((k + 1 : Nat) : Int) := by have := HF9.out; rw [IntWalk.i64_in _ (by omega)]; omega
          have HX := Lib.hid (HN.out k (by omega) hf)
          have HY := Lib.hid (HHE.out k (by omega) hf)
          have kd := line_cd hrg
          clear hrg hB hlt hf hk
          generalize hlk : lineAt ls k = lk at *
          cases hd : lk.d with
          | true =>
            rw [hd] at kd
            have HX2 := Lib.hid (HX.out hd)
            clear HX HY hd hlk
            go_wp2_with (first
              | (refine wpList_line_elem_w rfl _ _ rfl LB o n c k rfl rfl HLT.out ?_))
            go_roundw
            case rel => exact ⟨k + 1, HLT.out, by go_num, HX2.out, trivial⟩
            case measure => have := HLT.out; simp [intOf]; omega
          | false =>
            rw [hd] at kd
            have HY2 := Lib.hid (HY.out hd)
            clear HX HY hd hlk
            have HO := Lib.hid (refOut_any HAD.out k (by rw [hn]; exact HLT.out))
            have HLE := Lib.hid (show (outL ls k).length ≤ 999 from by rw [outL_len (by rw [hn]; exact HLT.out), hn]; have := HF9.out; omega)
            have OKL := Lib.hid (show ∀ x ∈ outL ls k ++ [l], x.ok from put_ok HLS.out HL.out)
            have OFL := Lib.hid (show (outL ls k ++ [l]).length ≤ 1000 from by have := HLE.out; simp; omega)
            have HN0 := Lib.hid (show N = 0 from by rw [← HNN.out, HY2.out, if_pos HLT.out])
            have HS0 := Lib.hid (show SS = outL ls k ++ [l] from by rw [← HSS.out, HY2.out, if_pos HLT.out])
            have e1 : decide ((k : Int) = (n : Int)) = false := by have := HLT.out; simp; omega
            have e2 : ((k : Int) == (n : Int)) = false := by have := HLT.out; simp; omega
            have e3 : ¬ (k : Int) = (n : Int) := by have := HLT.out; omega
            go_wp2_with (first
              | (refine wpList_line_elem_w rfl _ _ rfl LB o n c k rfl rfl HLT.out ?_)
              | (go_at_call 28; refine (HO.out).mono ?_; rintro e w1 ⟨rfl, v1, h1, h2, h3⟩
                 have H1 := Lib.hid h1
                 have T1 := Lib.hid (TD.out.trans fun v1' h1' => by
                   obtain rfl : v1' = _ := ref_val h1' HAD.out
                   exact RefTo.of_out h1 h2 h3)
                 have L1 := Lib.hid (show ∀ k, v1.ownBlock = some k → w.heap.size + 1 ≤ k from fun k hk => by have := h3 k hk; rwa [SZD.out] at this)
                 have BX := Lib.hid (show LineBox w1 w.heap.size l from (h2.block w.heap.size (by rw [SZD.out]; omega) (fun e => NB.out e)).trans BXD.out)
                 clear h1 h2 h3 HO))
            obtain ⟨p1, c1', hv1, -, -, -, -⟩ := H1.out.own.rows elemLine.len
            generalize List.length _ = n1 at hv1
            subst hv1
            have NOB := Lib.hid (show Value.ownBlock (.slice p1 n1 c1') ≠ some w.heap.size from fun e => by have := L1.out _ e; omega)
            have HH := Lib.hid H1.out
            have TT := Lib.hid T1.out
            clear T1 H1 c1 kd
            generalize outL ls k = m at *
            have BBW := Lib.hid (Below.refl w1.heap.size w1)
            refine wp_region_tree (.float 0 (.float 1 (.float 2 (.float 3 (.float 5 (.two 4 (.one 6 (.one 7 (.float 8 (.float 9 (.one 10 .over))))) 6 (.one 4 (.one 7 (.float 8 (.float 9 (.one 10 .over)))))))))) ) (fun V => LineBox V w.heap.size l) (by kernel_rfl) (by kernel_rfl) (show LineBox w1.drew w.heap.size l from BX.out) ?_
            refine tree_float rfl rfl (fun K hK => ?_)
            refine gives_move _ rfl ?_
            go_simp
            refine hK _ ?_
            clear hK K
            refine tree_float rfl rfl (fun K hK => ?_)
            refine gives_move _ rfl ?_
            go_simp
            refine hK _ ?_
            clear hK K
            refine tree_float rfl rfl (fun K hK => ?_)
            refine gives_nil_check _ rfl ⟨B, 0, none⟩ rfl ?_
            go_simp
            refine hK _ ?_
            clear hK K
            refine tree_float rfl rfl (fun K hK => ?_)
            refine gives_cfield _ 1 rfl (by decide) B rfl ?_
            go_simp
            refine hK _ ?_
            clear hK K
            refine tree_float rfl rfl (fun K hK => ?_)
            refine gives_line_load _ rfl w.heap.size 0 rfl l (fun V hV => LineBox.range hV) ?_
            go_simp
            refine hK _ ?_
            clear hK K
            have BX2 := Lib.hid (show LineBox (w1.drew.alloc (.cells (lineC l).toArray 42)) w.heap.size l from (show LineBox w1.drew w.heap.size l from BX.out).below (Below.alloc (Below.refl _ w1.drew) (Nat.le_refl _) _) BX.out.lt)
            have BB2 := Lib.hid (show Below w1.heap.size w1 (w1.drew.alloc (.cells (lineC l).toArray 42)) from (BBW.out.drew).alloc BBW.out.size _)
            refine tree_two ?_ ?_
            · refine tree_one rfl rfl (fun K hK => ?_)
              refine done_load_box 34 _ rfl ⟨B, 1, none⟩ _ rfl box_lines (HH.out.below BBW.out.drew).c1 ?_
              refine ⟨show LineBox w1.drew w.heap.size l from BX.out, ?_⟩
              go_simp
              refine hK _ _ ?_
              clear hK K
              refine tree_one rfl rfl (fun K hK => ?_)
              refine done_line1 _ rfl l rfl ?_
              refine ⟨BX2.out, ?_⟩
              go_simp
              refine hK _ _ ?_
              clear hK K
              refine tree_one rfl rfl (fun K hK => ?_)
              refine done_append_list elemLine _ _ rfl 0 _ _ m [l] (some ⟨w1.drew.heap.size, 0, none⟩) 1 1 rfl rfl rfl (HH.out.below BB2.out).own (rows_line1 w1.drew l) (by have := HLE.out; simp; omega) (by decide) (Nat.zero_le _) ?_
              intro v5 w5 ho5 hg5 hr5
              have O5 := Lib.hid ho5
              have G5 := Lib.hid hg5
              have R5 := Lib.hid hr5
              clear ho5 hg5 hr5
              have BX3 := Lib.hid (show LineBox w5 w.heap.size l from (G5.out.block w.heap.size (Nat.lt_of_lt_of_le BX2.out.lt (Nat.le_refl _)) (fun e => NOB.out e.symm)).trans BX2.out)
              obtain ⟨p5, c5, hv5, -, -, -, -⟩ := O5.out.rows elemLine.len
              generalize List.length _ = n5 at hv5
              subst hv5
              have RT := Lib.hid (ref_app HH.out BB2.out (O5.out) G5.out R5.out OKL.out OFL.out)
              refine ⟨BX3.out, ?_⟩
              go_simp
              refine hK _ _ ?_
              clear hK K
              refine tree_float rfl rfl (fun K hK => ?_)
              refine gives_nil_check _ rfl ⟨B, 0, none⟩ rfl ?_
              go_simp
              refine hK _ ?_
              clear hK K
              refine tree_float rfl rfl (fun K hK => ?_)
              refine gives_cfield _ 1 rfl (by decide) B rfl ?_
              go_simp
              refine hK _ ?_
              clear hK K
              refine tree_one rfl rfl (fun K hK => ?_)
              refine done_store_lines _ _ rfl ⟨B, 1, none⟩ _ p5 n5 c5 rfl rfl rfl _ (cell_of_row _ _ _ _ _ _ RT.out.1) (frozen_of_row _ _ _ _ _ RT.out.1) ?_
              refine ⟨(Below.heap_setCell _ _ _ w.heap.size (fun e => NB.out e)).trans BX3.out, ?_⟩
              go_simp
              refine hK _ _ ?_
              clear hK K
              refine tree_over ?_
              have TE := Lib.hid (TT.out.trans fun v1' h1' => by
                obtain rfl : v1' = _ := ref_val h1' HH.out
                exact RT.out.2)
              clear RT TT HH
              generalize w5.setCell ⟨B, 1, none⟩ (.slice p5 n5 c5) = w6 at *
              go_wp2
              go_ret
              exact ⟨by rw [HN0.out]; rfl, HS0.out ▸ TE.out⟩
            · refine tree_one rfl rfl (fun K hK => ?_)
              refine done_line1 _ rfl l rfl ?_
              refine ⟨BX2.out, ?_⟩
              go_simp
              refine hK _ _ ?_
              clear hK K
              refine tree_one rfl rfl (fun K hK => ?_)
              refine done_load_box 34 _ rfl ⟨B, 1, none⟩ _ rfl box_lines (HH.out.below BB2.out).c1 ?_
              refine ⟨BX2.out, ?_⟩
              go_simp
              refine hK _ _ ?_
              clear hK K
              refine tree_one rfl rfl (fun K hK => ?_)
              refine done_append_list elemLine _ _ rfl 0 _ _ m [l] (some ⟨w1.drew.heap.size, 0, none⟩) 1 1 rfl rfl rfl (HH.out.below BB2.out).own (rows_line1 w1.drew l) (by have := HLE.out; simp; omega) (by decide) (Nat.zero_le _) ?_
              intro v5 w5 ho5 hg5 hr5
              have O5 := Lib.hid ho5
              have G5 := Lib.hid hg5
              have R5 := Lib.hid hr5
              clear ho5 hg5 hr5
              have BX3 := Lib.hid (show LineBox w5 w.heap.size l from (G5.out.block w.heap.size (Nat.lt_of_lt_of_le BX2.out.lt (Nat.le_refl _)) (fun e => NOB.out e.symm)).trans BX2.out)
              obtain ⟨p5, c5, hv5, -, -, -, -⟩ := O5.out.rows elemLine.len
              generalize List.length _ = n5 at hv5
              subst hv5
              have RT := Lib.hid (ref_app HH.out BB2.out (O5.out) G5.out R5.out OKL.out OFL.out)
              refine ⟨BX3.out, ?_⟩
              go_simp
              refine hK _ _ ?_
              clear hK K
              refine tree_float rfl rfl (fun K hK => ?_)
              refine gives_nil_check _ rfl ⟨B, 0, none⟩ rfl ?_
              go_simp
              refine hK _ ?_
              clear hK K
              refine tree_float rfl rfl (fun K hK => ?_)
              refine gives_cfield _ 1 rfl (by decide) B rfl ?_
              go_simp
              refine hK _ ?_
              clear hK K
              refine tree_one rfl rfl (fun K hK => ?_)
              refine done_store_lines _ _ rfl ⟨B, 1, none⟩ _ p5 n5 c5 rfl rfl rfl _ (cell_of_row _ _ _ _ _ _ RT.out.1) (frozen_of_row _ _ _ _ _ RT.out.1) ?_
              refine ⟨(Below.heap_setCell _ _ _ w.heap.size (fun e => NB.out e)).trans BX3.out, ?_⟩
              go_simp
              refine hK _ _ ?_
              clear hK K
              refine tree_over ?_
              have TE := Lib.hid (TT.out.trans fun v1' h1' => by
                obtain rfl : v1' = _ := ref_val h1' HH.out
                exact RT.out.2)
              clear RT TT HH
              generalize w5.setCell ⟨B, 1, none⟩ (.slice p5 n5 c5) = w6 at *
              go_wp2
              go_ret
              exact ⟨by rw [HN0.out]; rfl, HS0.out ▸ TE.out⟩
        · have f1 : ¬ (k : Int) < (n : Int) := by omega
          obtain rfl : k = n := by omega
          have e1 : decide ((k : Int) = (k : Int)) = true := by simp
          have HN0 := Lib.hid (show N = 7 from by rw [← HNN.out, if_neg (show ¬ cleanL ls < k by omega)])
          have HS0 := Lib.hid (show SS = ls from by rw [← HSS.out, if_neg (show ¬ cleanL ls < k by omega)])
          clear hlt hk hf
          go_wp2
          go_ret
          exact ⟨by rw [HN0.out]; rfl, HS0.out ▸ TD.out⟩
    · have dq : decide (q ≤ (n : Int)) = false := by simp; omega
      rw [if_neg hq, if_neg hq]
      clear hq
      have HLE := Lib.hid (show ls.length ≤ 999 from by rw [hn]; exact HF9.out)
      have OKL := Lib.hid (show ∀ x ∈ ls ++ [l], x.ok from put_ok' HLS.out HL.out)
      have OFL := Lib.hid (show (ls ++ [l]).length ≤ 1000 from by have := HLE.out; simp; omega)
      show Calls Try.prog 17 #[.pointer (some ⟨B, 0, none⟩), .agg (lineC l).toArray] w _
      go_enter Try.func17, Try.ntmps17
      go_wp2_with (first
        | (go_at_call 27; refine (HF.out).mono ?_; rintro e w1 ⟨rfl, rfl⟩))
      refine wp_region_sched [(0, true), (1, true), (2, true), (3, true), (4, true), (5, true), (6, true), (7, true), (8, true), (9, true)] (fun V => RefC V B q (.slice p n c) ls) (by kernel_rfl) (by kernel_rfl) HAD.out ?_
      refine walk_float rfl rfl (fun K hK => ?_)
      refine gives_move _ rfl ?_
      go_simp
      refine hK _ ?_
      clear hK K
      refine walk_float rfl rfl (fun K hK => ?_)
      refine gives_nil_check _ rfl ⟨B, 0, none⟩ rfl ?_
      go_simp
      refine hK _ ?_
      clear hK K
      refine walk_float rfl rfl (fun K hK => ?_)
      refine gives_cfield _ 1 rfl (by decide) B rfl ?_
      go_simp
      refine hK _ ?_
      clear hK K
      refine walk_float rfl rfl (fun K hK => ?_)
      refine gives_cell 34 _ rfl ⟨B, 1, none⟩ _ rfl box_lines (fun V hV => RefC.c1 hV) ?_
      go_simp
      refine hK _ ?_
      clear hK K
      refine walk_float rfl rfl (fun K hK => ?_)
      refine gives_len_lines _ rfl p n c rfl ?_
      go_simp
      refine hK _ ?_
      clear hK K
      refine walk_float rfl rfl (fun K hK => ?_)
      refine gives_move _ rfl ?_
      go_simp
      refine hK _ ?_
      clear hK K
      refine walk_float rfl rfl (fun K hK => ?_)
      refine gives_nil_check _ rfl ⟨B, 0, none⟩ rfl ?_
      go_simp
      refine hK _ ?_
      clear hK K
      refine walk_float rfl rfl (fun K hK => ?_)
      refine gives_cfield _ 0 rfl (by decide) B rfl ?_
      go_simp
      refine hK _ ?_
      clear hK K
      refine walk_float rfl rfl (fun K hK => ?_)
      refine gives_cell 3 _ rfl ⟨B, 0, none⟩ _ rfl box_int (fun V hV => RefC.c0 hV) ?_
      go_simp
      refine hK _ ?_
      clear hK K
      refine walk_float rfl rfl (fun K hK => ?_)
      refine gives_int_atleast _ _ rfl (n : Nat) q rfl rfl _ dq ?_
      go_simp
      refine hK _ ?_
      clear hK K
      refine walk_nil ?_
      generalize (w.alloc (.cells (lineC l).toArray 42)).drew = wd at *
      clear HF HA BX0 k0 k1 dq
      go_wp2
      have NOB := Lib.hid (show Value.ownBlock (.slice p n c) ≠ some w.heap.size from fun e => by have := NV.out _ e; omega)
      have HH := Lib.hid HAD.out
      have TT := Lib.hid TD.out
      have BX := Lib.hid BXD.out
      clear HAD TD BXD
      have BBW := Lib.hid (Below.refl wd.heap.size wd)
      refine wp_region_tree (.float 0 (.float 1 (.float 2 (.float 3 (.float 5 (.two 4 (.one 6 (.one 7 (.float 8 (.float 9 (.one 10 .over))))) 6 (.one 4 (.one 7 (.float 8 (.float 9 (.one 10 .over)))))))))) ) (fun V => LineBox V w.heap.size l) (by kernel_rfl) (by kernel_rfl) (show LineBox wd.drew w.heap.size l from BX.out) ?_
      refine tree_float rfl rfl (fun K hK => ?_)
      refine gives_move _ rfl ?_
      go_simp
      refine hK _ ?_
      clear hK K
      refine tree_float rfl rfl (fun K hK => ?_)
      refine gives_move _ rfl ?_
      go_simp
      refine hK _ ?_
      clear hK K
      refine tree_float rfl rfl (fun K hK => ?_)
      refine gives_nil_check _ rfl ⟨B, 0, none⟩ rfl ?_
      go_simp
      refine hK _ ?_
      clear hK K
      refine tree_float rfl rfl (fun K hK => ?_)
      refine gives_cfield _ 1 rfl (by decide) B rfl ?_
      go_simp
      refine hK _ ?_
      clear hK K
      refine tree_float rfl rfl (fun K hK => ?_)
      refine gives_line_load _ rfl w.heap.size 0 rfl l (fun V hV => LineBox.range hV) ?_
      go_simp
      refine hK _ ?_
      clear hK K
      have BX2 := Lib.hid (show LineBox (wd.drew.alloc (.cells (lineC l).toArray 42)) w.heap.size l from (show LineBox wd.drew w.heap.size l from BX.out).below (Below.alloc (Below.refl _ wd.drew) (Nat.le_refl _) _) BX.out.lt)
      have BB2 := Lib.hid (show Below wd.heap.size wd (wd.drew.alloc (.cells (lineC l).toArray 42)) from (BBW.out.drew).alloc BBW.out.size _)
      refine tree_two ?_ ?_
      · refine tree_one rfl rfl (fun K hK => ?_)
        refine done_load_box 34 _ rfl ⟨B, 1, none⟩ _ rfl box_lines (HH.out.below BBW.out.drew).c1 ?_
        refine ⟨show LineBox wd.drew w.heap.size l from BX.out, ?_⟩
        go_simp
        refine hK _ _ ?_
        clear hK K
        refine tree_one rfl rfl (fun K hK => ?_)
        refine done_line1 _ rfl l rfl ?_
        refine ⟨BX2.out, ?_⟩
        go_simp
        refine hK _ _ ?_
        clear hK K
        refine tree_one rfl rfl (fun K hK => ?_)
        refine done_append_list elemLine _ _ rfl 0 _ _ ls [l] (some ⟨wd.drew.heap.size, 0, none⟩) 1 1 rfl rfl rfl (HH.out.below BB2.out).own (rows_line1 wd.drew l) (by have := HLE.out; simp; omega) (by decide) (Nat.zero_le _) ?_
        intro v5 w5 ho5 hg5 hr5
        have O5 := Lib.hid ho5
        have G5 := Lib.hid hg5
        have R5 := Lib.hid hr5
        clear ho5 hg5 hr5
        have BX3 := Lib.hid (show LineBox w5 w.heap.size l from (G5.out.block w.heap.size (Nat.lt_of_lt_of_le BX2.out.lt (Nat.le_refl _)) (fun e => NOB.out e.symm)).trans BX2.out)
        obtain ⟨p5, c5, hv5, -, -, -, -⟩ := O5.out.rows elemLine.len
        generalize List.length _ = n5 at hv5
        subst hv5
        have RT := Lib.hid (ref_app HH.out BB2.out (O5.out) G5.out R5.out OKL.out OFL.out)
        refine ⟨BX3.out, ?_⟩
        go_simp
        refine hK _ _ ?_
        clear hK K
        refine tree_float rfl rfl (fun K hK => ?_)
        refine gives_nil_check _ rfl ⟨B, 0, none⟩ rfl ?_
        go_simp
        refine hK _ ?_
        clear hK K
        refine tree_float rfl rfl (fun K hK => ?_)
        refine gives_cfield _ 1 rfl (by decide) B rfl ?_
        go_simp
        refine hK _ ?_
        clear hK K
        refine tree_one rfl rfl (fun K hK => ?_)
        refine done_store_lines _ _ rfl ⟨B, 1, none⟩ _ p5 n5 c5 rfl rfl rfl _ (cell_of_row _ _ _ _ _ _ RT.out.1) (frozen_of_row _ _ _ _ _ RT.out.1) ?_
        refine ⟨(Below.heap_setCell _ _ _ w.heap.size (fun e => NB.out e)).trans BX3.out, ?_⟩
        go_simp
        refine hK _ _ ?_
        clear hK K
        refine tree_over ?_
        have TE := Lib.hid (TT.out.trans fun v1' h1' => by
          obtain rfl : v1' = _ := ref_val h1' HH.out
          exact RT.out.2)
        clear RT TT HH
        generalize w5.setCell ⟨B, 1, none⟩ (.slice p5 n5 c5) = w6 at *
        go_wp2
        go_ret
        exact ⟨rfl, TE.out⟩
      · refine tree_one rfl rfl (fun K hK => ?_)
        refine done_line1 _ rfl l rfl ?_
        refine ⟨BX2.out, ?_⟩
        go_simp
        refine hK _ _ ?_
        clear hK K
        refine tree_one rfl rfl (fun K hK => ?_)
        refine done_load_box 34 _ rfl ⟨B, 1, none⟩ _ rfl box_lines (HH.out.below BB2.out).c1 ?_
        refine ⟨BX2.out, ?_⟩
        go_simp
        refine hK _ _ ?_
        clear hK K
        refine tree_one rfl rfl (fun K hK => ?_)
        refine done_append_list elemLine _ _ rfl 0 _ _ ls [l] (some ⟨wd.drew.heap.size, 0, none⟩) 1 1 rfl rfl rfl (HH.out.below BB2.out).own (rows_line1 wd.drew l) (by have := HLE.out; simp; omega) (by decide) (Nat.zero_le _) ?_
        intro v5 w5 ho5 hg5 hr5
        have O5 := Lib.hid ho5
        have G5 := Lib.hid hg5
        have R5 := Lib.hid hr5
        clear ho5 hg5 hr5
        have BX3 := Lib.hid (show LineBox w5 w.heap.size l from (G5.out.block w.heap.size (Nat.lt_of_lt_of_le BX2.out.lt (Nat.le_refl _)) (fun e => NOB.out e.symm)).trans BX2.out)
        obtain ⟨p5, c5, hv5, -, -, -, -⟩ := O5.out.rows elemLine.len
        generalize List.length _ = n5 at hv5
        subst hv5
        have RT := Lib.hid (ref_app HH.out BB2.out (O5.out) G5.out R5.out OKL.out OFL.out)
        refine ⟨BX3.out, ?_⟩
        go_simp
        refine hK _ _ ?_
        clear hK K
        refine tree_float rfl rfl (fun K hK => ?_)
        refine gives_nil_check _ rfl ⟨B, 0, none⟩ rfl ?_
        go_simp
        refine hK _ ?_
        clear hK K
        refine tree_float rfl rfl (fun K hK => ?_)
        refine gives_cfield _ 1 rfl (by decide) B rfl ?_
        go_simp
        refine hK _ ?_
        clear hK K
        refine tree_one rfl rfl (fun K hK => ?_)
        refine done_store_lines _ _ rfl ⟨B, 1, none⟩ _ p5 n5 c5 rfl rfl rfl _ (cell_of_row _ _ _ _ _ _ RT.out.1) (frozen_of_row _ _ _ _ _ RT.out.1) ?_
        refine ⟨(Below.heap_setCell _ _ _ w.heap.size (fun e => NB.out e)).trans BX3.out, ?_⟩
        go_simp
        refine hK _ _ ?_
        clear hK K
        refine tree_over ?_
        have TE := Lib.hid (TT.out.trans fun v1' h1' => by
          obtain rfl : v1' = _ := ref_val h1' HH.out
          exact RT.out.2)
        clear RT TT HH
        generalize w5.setCell ⟨B, 1, none⟩ (.slice p5 n5 c5) = w6 at *
        go_wp2
        go_ret
        exact ⟨rfl, TE.out⟩
end Go.Proofs.Ytlaclakndleonaa

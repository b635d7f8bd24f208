/- The contract of the document's out: a line goes. Conditions: the cache lies in memory; there is such a line. -/
import Derived.Test.YtlaclakndleonaaCaRefF
namespace Go.Proofs.Ytlaclakndleonaa
open Go.ChangeShapes Go.WideShapes Go.ChangeAt Go.RowKit
set_option linter.unusedVariables false
theorem RefC.out' {w w' : World} {B : Nat} {q : Int} {v v' : Value} {ls ls' : List LineOf} (h : RefC w B q v ls) (hb : w'.heap[B]? = some (.cells #[.int .i64 q, v'] 36 (0, 0))) {base : Nat} (ho : OwnL 42 131 lineC w' base w'.heap.size v' ls') (hB : B < base) (hk : ∀ l ∈ ls', l.ok) (hf : ls'.length ≤ 1000) : RefC w' B q v' ls' :=
  ⟨hb, ho.lower (Nat.zero_le _), fun e => by have := ho.block B e; omega, hk, hf⟩
/-- Two new boxes for lines, the second laid. -/
theorem two_boxes (w : World) (l : LineOf) : LineBox (((w.alloc (.cells (lineC noLine).toArray 42)).alloc (.cells (lineC noLine).toArray 42)).setRow (w.heap.size + 1) (lineC l).toArray) w.heap.size noLine ∧
    LineBox (((w.alloc (.cells (lineC noLine).toArray 42)).alloc (.cells (lineC noLine).toArray 42)).setRow (w.heap.size + 1) (lineC l).toArray) (w.heap.size + 1) l ∧
    Below w.heap.size w (((w.alloc (.cells (lineC noLine).toArray 42)).alloc (.cells (lineC noLine).toArray 42)).setRow (w.heap.size + 1) (lineC l).toArray) ∧
    (((w.alloc (.cells (lineC noLine).toArray 42)).alloc (.cells (lineC noLine).toArray 42)).setRow (w.heap.size + 1) (lineC l).toArray).heap.size = w.heap.size + 2 := by
  have a1 : LineBox (w.alloc (.cells (lineC noLine).toArray 42)) w.heap.size noLine := LineBox.alloc w noLine
  have b1 : Below w.heap.size w (w.alloc (.cells (lineC noLine).toArray 42)) := (Below.refl _ w).alloc (Nat.le_refl _) _
  have s1 : (w.alloc (.cells (lineC noLine).toArray 42)).heap.size = w.heap.size + 1 := World.size_alloc _ _
  generalize w.alloc (.cells (lineC noLine).toArray 42) = u at *
  have a2 : LineBox (u.alloc (.cells (lineC noLine).toArray 42)) u.heap.size noLine := LineBox.alloc u noLine
  have b2 : Below u.heap.size u (u.alloc (.cells (lineC noLine).toArray 42)) := (Below.refl _ u).alloc (Nat.le_refl _) _
  have s2 : (u.alloc (.cells (lineC noLine).toArray 42)).heap.size = u.heap.size + 1 := World.size_alloc _ _
  generalize u.alloc (.cells (lineC noLine).toArray 42) = x at *
  rw [s1] at a2 b2 s2
  refine ⟨(setRow_other x (w.heap.size + 1) w.heap.size _ (by omega)).trans (a1.below b2 (by omega)), a2.set l, (b1.trans (b2.mono (by omega))).trans (below_setRow (Below.refl _ x) (by omega) _), by simp [s2]⟩
/-- The lines' slice is laid in the struct, and the line in its box. -/
theorem ref_put {w wr : World} {B : Nat} {q : Int} {v u : Value} {ls ls' : List LineOf} {l : LineOf} (hB : wr.heap[B]? = some (.cells #[.int .i64 q, v] 36 (0, 0))) (hl : B < w.heap.size) (hb : Below w.heap.size w wr)
    (ho : OwnL 42 131 lineC wr (w.heap.size + 2) wr.heap.size u ls') (hs : w.heap.size + 2 ≤ wr.heap.size) (z0 : LineBox wr w.heap.size noLine) (z1 : LineBox wr (w.heap.size + 1) l) :
    LineBox (wr.setCell ⟨B, 1, none⟩ u) w.heap.size noLine ∧ LineBox (wr.setCell ⟨B, 1, none⟩ u) (w.heap.size + 1) l ∧
    (RefC w B q v ls → (∀ l ∈ ls', l.ok) → ls'.length ≤ 1000 → RefC ((wr.setCell ⟨B, 1, none⟩ u).setRow w.heap.size (lineC l).toArray) B q u ls' ∧ Keeps (fun k => k = B) w ((wr.setCell ⟨B, 1, none⟩ u).setRow w.heap.size (lineC l).toArray) ∧ ∀ k, u.ownBlock = some k → w.heap.size ≤ k) := by
  have oth : ∀ k, k ≠ B → (wr.setCell ⟨B, 1, none⟩ u).heap[k]? = wr.heap[k]? := fun k hk => Below.heap_setCell _ _ _ k (fun e => hk e)
  have hsz : (wr.setCell ⟨B, 1, none⟩ u).heap.size = wr.heap.size := by simp [World.setCell]
  refine ⟨(oth _ (by omega)).trans z0, (oth _ (by omega)).trans z1, fun hc hok hf => ⟨?_, ?_, fun k hk => by have := ho.block k hk; omega⟩⟩
  · have hb1 : (wr.setCell ⟨B, 1, none⟩ u).heap[B]? = some (.cells #[.int .i64 q, u] 36 (0, 0)) := heap_setCell_same _ _ _ _ _ _ hB
    refine ⟨(setRow_other _ _ B _ (by omega)).trans hb1, ?_, fun e => by have := ho.block B e; omega, hok, hf⟩
    have e2 : ((wr.setCell ⟨B, 1, none⟩ u).setRow w.heap.size (lineC l).toArray).heap.size = wr.heap.size := by simp [World.setCell]
    rw [e2]
    exact (ho.same (w' := (wr.setCell ⟨B, 1, none⟩ u).setRow w.heap.size (lineC l).toArray) fun k h1 h2 => (setRow_other _ _ k _ (by omega)).trans (oth k (by omega))).lower (Nat.zero_le _)
  · have h1 : Keeps (fun k => k = B) w (wr.setCell ⟨B, 1, none⟩ u) := Keeps.setCell (S := fun k => k = B) (Keeps.of hb) (B := B) rfl 1 u
    exact h1.trans' ⟨rfl, rfl, rfl, by simp, fun k hk hn => setRow_other (wr.setCell ⟨B, 1, none⟩ u) w.heap.size k (lineC l).toArray (by omega)⟩
attribute [local irreducible] outL lineC lineAt
set_option maxRecDepth 100000 in
set_option maxHeartbeats 2000000 in
theorem refOut_any {w : World} {B : Nat} {q : Int} {v : Value} {ls : List LineOf} (h : RefC w B q v ls) (i : Nat) (hi : i < ls.length) :
    Calls Try.prog 28 #[.pointer (some ⟨B, 0, none⟩), .int .i64 i] w fun e w' => e = .returned (lineV (lineAt ls i)) ∧ ∃ v', RefC w' B q v' (outL ls i) ∧ Keeps (fun k => k = B) w w' ∧ ∀ k, v'.ownBlock = some k → w.heap.size ≤ k := by
  have HC := Lib.hid h
  obtain ⟨p, c, rfl, -, -, hr, -⟩ := h.own.rows elemLine.len
  obtain ⟨LB, o, rfl, hB, hrg⟩ := line_rows hr hi
  have HF := Lib.hid h.few
  have HLB := Lib.hid hB
  have HR := Lib.hid (fun (W : World) (hW : Below w.heap.size w W) (k : Nat) (hk : k < ls.length) => show W.rangeAt LB (o + 131 * k) (lineC (lineAt ls k)) from by
    rcases hr with he | ⟨B', o', hq, h2, h3⟩
    · rw [he] at hk; exact absurd hk (Nat.not_lt_zero _)
    · cases hq; exact rangeAt_below (h3 k _ (lineAt_get hk)) hW h2)
  have HC1 := Lib.hid (fun (W : World) (hW : Below w.heap.size w W) => (h.below hW).c1)
  have HT0 := Lib.hid (outL_zero ls i)
  have HTS := Lib.hid (fun k (hk : k < ls.length) (he : k = i) => outL_same (ls := ls) hk he)
  have HTN := Lib.hid (fun k (hk : k < ls.length) (he : k ≠ i) => outL_next (ls := ls) hk he)
  have HTE := Lib.hid (show outL (ls.take ls.length) i = outL ls i by rw [List.take_length])
  have HTK := Lib.hid (show ∀ k, (outL (ls.take k) i).length ≤ 1000 from fun k => by
    have := h.few
    unfold outL; exact Nat.le_trans (List.length_eraseIdx_le _ _) (by rw [List.length_take]; omega))
  have HOK := Lib.hid (show ∀ l ∈ outL ls i, l.ok from fun l hl => h.ok l (mem_out hl))
  have HOF := Lib.hid (show (outL ls i).length ≤ 1000 from by rw [← HTE.out]; exact HTK.out _)
  have B0 := Lib.hid (Below.refl w.heap.size w)
  have B1 := Lib.hid ((Below.refl w.heap.size w).alloc (Nat.le_refl _) (.cells (lineC noLine).toArray 42))
  have c1 := h.c1
  have HI := Lib.hid hi
  clear h hr hrg hB
  generalize hn : ls.length = n at *
  go_enter Try.func28, Try.ntmps28
  go_wp2_with (first
    | (refine wpList_line_alloc rfl rfl w.heap.size rfl ?_
       have c1 := HC1.out _ B1.out)
    | (refine wpList_line_elem rfl _ _ rfl LB o n c i rfl rfl HI.out ?_)
    | (refine wpList_line_load rfl _ rfl LB (o + 131 * i) rfl (lineAt ls i) (HR.out _ B1.out i HI.out) ?_)
    | (refine wpList_line_alloc rfl rfl (w.heap.size + 1) (World.size_alloc _ _) ?_)
    | (refine store_row_on rfl 42 _ _ rfl rfl (w.heap.size + 1) (lineC (lineAt ls i)).toArray rfl rfl 42 (lineC noLine).toArray ?hg (lineA_size _) (lineA_same _ _) (lineA_one _) ?_
       case hg => have := heap_alloc_new (w.alloc (.cells (lineC noLine).toArray 42)) (.cells (lineC noLine).toArray 42); rwa [World.size_alloc] at this))
  have X0 := Lib.hid (two_boxes w (lineAt ls i))
  generalize hw2 : ((w.alloc (.cells (lineC noLine).toArray 42)).alloc (.cells (lineC noLine).toArray 42)).setRow (w.heap.size + 1) (lineC (lineAt ls i)).toArray = w2 at *
  clear c1 hw2 B0 B1
  have O0 := Lib.hid (OwnL.nil (α := LineOf) 42 131 lineC w2 (w.heap.size + 2) w2.heap.size)
  have HC1 := Lib.hid (fun (W : World) (hW : Below (w.heap.size + 2) w2 W) => HC1.out W (X0.out.2.2.1.trans (hW.mono (Nat.le_add_right _ _))))
  have HR := Lib.hid (fun (W : World) (hW : Below (w.heap.size + 2) w2 W) => HR.out W (X0.out.2.2.1.trans (hW.mono (Nat.le_add_right _ _))))
  have S2 := Lib.hid (show w2.heap.size = w.heap.size + 2 from X0.out.2.2.2)
  go_loopw [7, 6] (fun v7 v6 wr => ∃ k : Nat, k ≤ n ∧ v7 = .int .i64 k ∧ OwnL 42 131 lineC wr (w.heap.size + 2) wr.heap.size v6 (outL (ls.take k) i) ∧ Below (w.heap.size + 2) w2 wr) (fun v7 _ _ => n - (intOf v7).toNat)
  case atStart => exact ⟨0, Nat.zero_le _, rfl, by rw [HT0.out]; exact O0.out, Below.refl _ _⟩
  case round =>
    obtain ⟨k, hk, rfl, ho, hb⟩ := hrel
    have HO := Lib.hid ho
    have HB := Lib.hid hb
    have c1 := HC1.out wr hb
    clear ho hb O0
    by_cases hlt : k < n
    · have f1 : (k : Int) < (n : Int) := by omega
      have HLT := Lib.hid hlt
      have f3 : IntKind.i64.wrap ((k : Int) + 1) = ((k + 1 : Nat) : Int) := by have := HF.out; rw [IntWalk.i64_in _ (by omega)]; omega
      clear hk hlt
      by_cases hki : k = i
      · have HX := Lib.hid (HTS.out k HLT.out hki)
        have e1 : decide ((k : Int) = (i : Int)) = true := by simp; omega
        have e2 : ((k : Int) == (i : Int)) = true := by simp; omega
        have e3 : decide ((k : Int) ≠ (i : Int)) = false := by simp; omega
        have e4 : ((k : Int) != (i : Int)) = false := by simp; omega
        clear hki
        go_wp2
        go_roundw
        case rel => exact ⟨k + 1, HLT.out, by go_num, by rw [HX.out]; exact HO.out, HB.out⟩
        case measure => have := HLT.out; simp [intOf]; omega
      · have HX := Lib.hid (HTN.out k HLT.out hki)
        have e1 : decide ((k : Int) = (i : Int)) = false := by simp; omega
        have e2 : ((k : Int) == (i : Int)) = false := by simp; omega
        have e3 : decide ((k : Int) ≠ (i : Int)) = true := by simp; omega
        have e4 : ((k : Int) != (i : Int)) = true := by simp; omega
        have HRK := Lib.hid (HR.out wr HB.out k HLT.out)
        have HLE := Lib.hid (HTK.out k)
        clear hki
        generalize lineAt ls k = l at *
        generalize outL (ls.take k) i = m at *
        go_wp2_with (first
          | (refine wpList_line_elem rfl _ _ rfl LB o n c k rfl rfl HLT.out ?_)
          | (refine wpList_line_load rfl _ rfl LB (o + 131 * k) rfl l HRK.out ?_)
          | (refine wpList_line1 rfl _ rfl l rfl ?_)
          | (refine wpList_append_list elemLine rfl _ _ rfl (w.heap.size + 2) wr.heap.size _ m [l] (some ⟨wr.heap.size, 0, none⟩) 1 1 rfl rfl rfl (HO.out.below (Nat.le_refl _) ((Below.refl _ wr).alloc (Nat.le_refl _) _)) (rows_line1 wr l) (by have := HLE.out; simp; omega) (by decide) (by have := HB.out.size; have := S2.out; simp; omega) ?_
             intro v5 w5 ho5 hg5 hr5
             have O6 := Lib.hid ho5
             have B6 := Lib.hid ((HB.out.trans ((Below.refl _ wr).alloc (by have := HB.out.size; have := S2.out; omega) _)).trans (below_own1 hg5 (HO.out.block) (by have := HB.out.size; have := S2.out; simp; omega)))
             clear ho5 hg5 hr5))
        go_roundw
        case rel => exact ⟨k + 1, HLT.out, by go_num, by rw [HX.out]; exact O6.out, B6.out⟩
        case measure => have := HLT.out; simp [intOf]; omega
    · have f1 : ¬ (k : Int) < (n : Int) := by omega
      obtain rfl : k = n := by omega
      rw [HTE.out] at HO
      obtain ⟨pu, cu, hu, -, -, -, -⟩ := HO.out.rows elemLine.len
      subst hu
      have HBW := Lib.hid (X0.out.2.2.1.trans (HB.out.mono (Nat.le_add_right _ _)))
      have HBX := Lib.hid (HC.out.below HBW.out).box
      have fz : wr.frozen? ⟨B, 1, none⟩ = false := frozen_of_row _ _ _ _ _ HBX.out
      have HBL := Lib.hid HC.out.lt
      have Z0 := Lib.hid (show LineBox wr w.heap.size noLine from X0.out.1.below HB.out (by omega))
      have Z1 := Lib.hid (show LineBox wr (w.heap.size + 1) (lineAt ls i) from X0.out.2.1.below HB.out (by omega))
      have W0 := Lib.hid (ref_put (ls := ls) HBX.out HBL.out HBW.out HO.out (by rw [S2.out.symm]; exact HB.out.size) Z0.out Z1.out)
      clear hlt hk
      go_wp2_with (first
        | (refine wpList_line_load rfl _ rfl (w.heap.size + 1) 0 rfl (lineAt ls i) (W0.out.2.1.range) ?_)
        | (refine store_row_on rfl 42 _ _ rfl rfl w.heap.size (lineC (lineAt ls i)).toArray rfl rfl 42 (lineC noLine).toArray W0.out.1 (lineA_size _) (lineA_same _ _) (lineA_one _) ?_))
      exact bodyPost_ret (results_cell_row rfl _ _ w.heap.size 42 (lineC (lineAt ls i)).toArray (0, 0) _ rfl (W0.out.1.set (lineAt ls i)) Try.underlying42 rfl (lineA_size _)) rfl ⟨rfl, _, W0.out.2.2 HC.out HOK.out HOF.out⟩
end Go.Proofs.Ytlaclakndleonaa

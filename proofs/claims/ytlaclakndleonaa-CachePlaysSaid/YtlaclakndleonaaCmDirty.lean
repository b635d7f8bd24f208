/- The contracts of Dirty and of the iterator that it answers: the dirty lines of the moment when it is asked for. Conditions: the cache lies in memory, its lines are good. -/
import Derived.Test.YtlaclakndleonaaCmLines
import Derived.Test.YtlaclakndleonaaCaFr
namespace Go.Proofs.Ytlaclakndleonaa
open Go.ChangeShapes Go.WideShapes Go.ChangeAt Go.RowKit
set_option linter.unusedVariables false
theorem dirty_at {ls : List LineOf} {k : Nat} (hk : k < ls.length) (hd : (lineAt ls k).d = true) : (dirtyL (ls.take k)).length < (dirtyL ls).length ∧ lineAt (dirtyL ls) (dirtyL (ls.take k)).length = lineAt ls k ∧ (dirtyL (ls.take (k + 1))).length = (dirtyL (ls.take k)).length + 1 := by
  have e1 := dirtyL_yes hk hd
  have e2 : dirtyL ls = dirtyL (ls.take (k + 1)) ++ dirtyL (ls.drop (k + 1)) := by
    unfold dirtyL; rw [← List.filter_append, List.take_append_drop]
  rw [e1] at e2
  refine ⟨by rw [e2]; simp, ?_, by rw [e1]; simp⟩
  rw [e2]
  unfold lineAt
  rw [List.getD_eq_getElem?_getD, List.append_assoc, List.getElem?_append_right (Nat.le_refl _)]
  simp
theorem dirty_not {ls : List LineOf} {k : Nat} (hk : k < ls.length) (hd : (lineAt ls k).d = false) : (dirtyL (ls.take (k + 1))).length = (dirtyL (ls.take k)).length := by rw [dirtyL_no hk hd]
/-- How many of the first k lines are dirty. -/
def dirtyN (ls : List LineOf) (k : Nat) : Nat := (dirtyL (ls.take k)).length
theorem dirtyN_all (ls : List LineOf) : dirtyN ls ls.length = (dirtyL ls).length := by unfold dirtyN; rw [List.take_length]
/-- What the iterator reads: the box of the lines' slice, and the lines. -/
def DirR (U : World) (D : Nat) (p : Option Addr) (V : World) : Prop := ∀ k, (k = D ∨ AtP p k) → V.heap[k]? = U.heap[k]?
theorem dirR_line {U V : World} {D : Nat} {p : Option Addr} {ls : List LineOf} (h : DirR U D p V) (ho : RowsAt 131 lineC U p ls) {k : Nat} (hk : k < ls.length) : ∃ B o, p = some ⟨B, o, none⟩ ∧ V.rangeAt B (o + 131 * k) (lineC (lineAt ls k)) := by
  obtain ⟨B, o, rfl, h2, h3⟩ := line_rows ho hk
  exact ⟨B, o, rfl, fun j v hv => (cell_fr (p := ⟨B, o + 131 * k + j, none⟩) (h B (.inr ⟨o, rfl⟩))).trans (h3 j v hv)⟩
theorem box_laid' (w : World) (l : LineOf) : LineBox ((w.alloc (.cells (lineC noLine).toArray 42)).setRow w.heap.size (lineC l).toArray) w.heap.size l ∧ Below w.heap.size w ((w.alloc (.cells (lineC noLine).toArray 42)).setRow w.heap.size (lineC l).toArray) :=
  ⟨(LineBox.alloc w noLine).set l, below_setRow ((Below.refl _ w).alloc (Nat.le_refl _) _) (Nat.le_refl _) _⟩
theorem box_d {W : World} {O : Nat} {l : LineOf} (h : LineBox W O l) : W.cell? ⟨O, 130, none⟩ = some (.bool l.d) := (h.cell 130).trans (lineC_d l)
attribute [local irreducible] findL outL lineC lineAt cleanL placeC gotL keysL dirtyL dirtyN lineV
attribute [local go_sem] Oper.semAt_some
set_option maxRecDepth 100000 in
set_option maxHeartbeats 4000000 in
theorem dirty_gives (D : Nat) (U : World) (p : Option Addr) (c : Nat) (ls : List LineOf) (hD : U.heap[D]? = some (.cells #[.slice p ls.length c] 34 (0, 0))) (ho : RowsAt 131 lineC U p ls) (hn : ls.length ≤ 100) :
    GivesFr Fence.wide 2 Try.prog 33 #[.pointer (some ⟨D, 0, none⟩)] (fun l : LineOf => #[lineV l]) (fun i => lineAt (dirtyL ls) i) (dirtyL ls).length (DirR U D p) := fun l J Jx W hR hJ hJx hY h0 => by
  refine callsIn_of_wp Try.func33 rfl trivial ?_ rfl
  simp only [Try.ntmps33, List.size_toArray, List.length_cons, List.length_nil, Nat.reduceAdd, Nat.reduceSub, Array.replicate_succ, Array.replicate_zero, List.push_toArray, List.append_toArray, List.nil_append, List.cons_append]
  have c0 : W.cell? ⟨D, 0, none⟩ = some (.slice p ls.length c) := (cell_fr (p := ⟨D, 0, none⟩) (hR 0 W h0 D (.inl rfl))).trans (cell_of_row _ _ _ _ _ _ hD)
  have HL := Lib.hid (fun V i (h : J i V) k (hk : k < ls.length) => dirR_line (hR i V h) ho (k := k) hk)
  have HAT := Lib.hid (fun k (hk : k < ls.length) (hd : (lineAt ls k).d = true) => (show dirtyN ls k < (dirtyL ls).length ∧ lineAt (dirtyL ls) (dirtyN ls k) = lineAt ls k ∧ dirtyN ls (k + 1) = dirtyN ls k + 1 by unfold dirtyN; exact dirty_at hk hd))
  have HNO := Lib.hid (fun k (hk : k < ls.length) (hd : (lineAt ls k).d = false) => (show dirtyN ls (k + 1) = dirtyN ls k by unfold dirtyN; exact dirty_not hk hd))
  have HEN := Lib.hid (dirtyN_all ls)
  have HZ := Lib.hid (show dirtyN ls 0 = 0 by unfold dirtyN dirtyL; rfl)
  have HF := Lib.hid hn
  have HJ := Lib.hid hJ; have HY := Lib.hid hY; have H0 := Lib.hid h0
  clear hR hJ hJx hY h0 hD ho hn
  generalize hN : ls.length = n at *
  refine wpIn_wide.2 ?_
  go_step3
  go_wp2
  go_step3
  go_wp2
  refine (wpIn_wide (n := 2)).1 ?_
  gi_loopw [7, 4, 11, 15] (fun v7 _ _ _ wr => ∃ k : Nat, k ≤ n ∧ v7 = .int .i64 k ∧ W.heap.size ≤ wr.heap.size ∧ J (dirtyN ls k) wr) (fun v7 _ _ _ _ => n - (intOf v7).toNat)
  case atStart => exact ⟨0, Nat.zero_le _, rfl, Nat.le_refl _, by rw [HZ.out]; exact H0.out⟩
  case round =>
    obtain ⟨k, hk, rfl, hs, hj⟩ := hrel
    clear H0 c0
    by_cases hlt : k < n
    · obtain ⟨LB, o, rfl, hrg⟩ := HL.out wr _ hj k hlt
      have HRK := Lib.hid hrg
      have HLT := Lib.hid hlt
      have f1 : (k : Int) < (n : Int) := by omega
      have f3 : IntKind.i64.wrap ((k : Int) + 1) = ((k + 1 : Nat) : Int) := by have := HF.out; rw [IntWalk.i64_in _ (by omega)]; omega
      have HA2 := Lib.hid (HAT.out k hlt)
      have HN2 := Lib.hid (HNO.out k hlt)
      have HS := Lib.hid hs
      have HJ1 := Lib.hid hj
      have BL := Lib.hid (box_laid' wr (lineAt ls k))
      clear hs hj hrg hlt hk
      generalize lineAt ls k = x at *
      cases hd : x.d with
      | false =>
        have HX := Lib.hid (HN2.out hd)
        have J2 := Lib.hid (HJ.out _ _ _ HJ1.out BL.out.2)
        have S2 := Lib.hid (Nat.le_trans HS.out BL.out.2.size)
        have kd := box_d BL.out.1
        rw [hd] at kd
        clear HA2 HN2 HY HL HAT HNO HJ
        gi_wp2_with (first
          | (refine lineW_elem rfl rfl rfl _ _ rfl LB o n c k rfl rfl HLT.out ?_)
          | (refine lineW_load rfl rfl rfl _ rfl LB (o + 131 * k) rfl x HRK.out ?_)
          | (refine lineW_alloc rfl rfl rfl rfl wr.heap.size rfl ?_)
          | (refine lineW_store rfl rfl rfl _ _ rfl rfl wr.heap.size rfl x noLine rfl (LineBox.alloc wr noLine) ?_
             generalize (wr.alloc (.cells (lineC noLine).toArray 42)).setRow wr.heap.size (lineC x).toArray = w2 at *))
        go_roundw
        case rel => exact ⟨k + 1, HLT.out, by go_num, S2.out, by rw [HX.out]; exact J2.out⟩
        case measure => have := HLT.out; simp [intOf]; omega
      | true =>
        have HX := Lib.hid (HA2.out hd)
        have J2 := Lib.hid (HJ.out _ _ _ HJ1.out BL.out.2)
        have S2 := Lib.hid (Nat.le_trans HS.out BL.out.2.size)
        have kd := box_d BL.out.1
        rw [hd] at kd
        obtain ⟨fn, tmps, assign, body, hy, hRr⟩ := HY.out _ _ HX.out.1 S2.out J2.out
        rw [HX.out.2.1] at hy
        have BX := Lib.hid BL.out.1
        clear HA2 HN2 HY HL HAT HNO HJ BL
        gi_wp2_with (first
          | (refine lineW_elem rfl rfl rfl _ _ rfl LB o n c k rfl rfl HLT.out ?_)
          | (refine lineW_load rfl rfl rfl _ rfl LB (o + 131 * k) rfl x HRK.out ?_)
          | (refine lineW_alloc rfl rfl rfl rfl wr.heap.size rfl ?_)
          | (refine lineW_store rfl rfl rfl _ _ rfl rfl wr.heap.size rfl x noLine rfl (LineBox.alloc wr noLine) ?_
             generalize (wr.alloc (.cells (lineC noLine).toArray 42)).setRow wr.heap.size (lineC x).toArray = w2 at *)
          | (refine lineW_load rfl rfl rfl _ rfl wr.heap.size 0 rfl x BX.out.range ?_))
        refine hRr.mono ?_
        rintro e W3 (⟨rfl, hj3, ha3⟩ | ⟨rfl, hx3, _⟩)
        · have H3 := Lib.hid hj3
          have S3 := Lib.hid (Nat.le_trans S2.out ha3)
          clear hRr hy hj3 ha3
          gi_wp2
          go_roundw
          case rel => exact ⟨k + 1, HLT.out, by go_num, S3.out, by rw [HX.out.2.2]; exact H3.out⟩
          case measure => have := HLT.out; simp [intOf]; omega
        · have HXx := Lib.hid hx3
          clear hRr hy hx3
          gi_wp2
          try rw [Exit.noGoto_normal]
          refine bodyPost_end (results_none rfl _ _ _) rfl ?_
          exact ⟨⟨_, rfl⟩, .inr HXx.out⟩
    · have f1 : ¬ (k : Int) < (n : Int) := by omega
      obtain rfl : k = n := by omega
      have HJ1 := Lib.hid hj
      rw [HEN.out] at HJ1
      clear hs hj hlt hk
      gi_wp2
      try rw [Exit.noGoto_normal]
      refine bodyPost_end (results_none rfl _ _ _) rfl ?_
      exact ⟨⟨_, rfl⟩, .inl HJ1.out⟩
end Go.Proofs.Ytlaclakndleonaa

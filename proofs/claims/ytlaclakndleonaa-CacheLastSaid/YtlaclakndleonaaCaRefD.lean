/- The contract of the document's Dirty: the dirty lines. Condition: the cache lies in memory. -/
import Derived.Test.YtlaclakndleonaaCaRefO
namespace Go.Proofs.Ytlaclakndleonaa
open Go.ChangeShapes Go.WideShapes Go.ChangeAt Go.RowKit
set_option linter.unusedVariables false
attribute [local irreducible] dirtyL lineC lineAt
set_option maxRecDepth 100000 in
set_option maxHeartbeats 2000000 in
theorem refDirty_any {w : World} {B : Nat} {q : Int} {v : Value} {ls : List LineOf} (h : RefC w B q v ls) :
    Calls Try.prog 23 #[.pointer (some ⟨B, 0, none⟩)] w fun e w' => ∃ v', e = .returned v' ∧ OwnL 42 131 lineC w' w.heap.size w'.heap.size v' (dirtyL ls) ∧ Below w.heap.size w w' := by
  have HC := Lib.hid h
  obtain ⟨p, c, rfl, -, -, hr, -⟩ := h.own.rows elemLine.len
  have HF := Lib.hid h.few
  have HR := Lib.hid hr
  have HC1 := Lib.hid (fun (W : World) (hW : Below w.heap.size w W) => (h.below hW).c1)
  have HTY := Lib.hid (fun k (hk : k < ls.length) (he : (lineAt ls k).d = true) => dirtyL_yes (ls := ls) hk he)
  have HTN := Lib.hid (fun k (hk : k < ls.length) (he : (lineAt ls k).d = false) => dirtyL_no (ls := ls) hk he)
  have HTE := Lib.hid (show dirtyL (ls.take ls.length) = dirtyL ls by rw [List.take_length])
  have HT0 := Lib.hid (dirtyL_zero ls)
  have HTK := Lib.hid (show ∀ k, (dirtyL (ls.take k)).length ≤ 1000 from fun k => by
    have := h.few
    exact Nat.le_trans (dirtyL_len _) (by rw [List.length_take]; omega))
  have O0 := Lib.hid (OwnL.nil (α := LineOf) 42 131 lineC w w.heap.size w.heap.size)
  have B0 := Lib.hid (Below.refl w.heap.size w)
  clear h hr
  generalize hn : ls.length = n at *
  go_enter Try.func23, Try.ntmps23
  go_wp2
  go_loopw [4, 3] (fun v4 v3 wr => ∃ k : Nat, k ≤ n ∧ v4 = .int .i64 k ∧ OwnL 42 131 lineC wr w.heap.size wr.heap.size v3 (dirtyL (ls.take k)) ∧ Below w.heap.size w wr) (fun v4 _ _ => n - (intOf v4).toNat)
  case atStart => exact ⟨0, Nat.zero_le _, rfl, by rw [HT0.out]; exact O0.out, B0.out⟩
  case round =>
    obtain ⟨k, hk, rfl, ho, hb⟩ := hrel
    have HO := Lib.hid ho
    have HB := Lib.hid hb
    have c1 := HC1.out wr hb
    clear ho hb O0 B0
    by_cases hlt : k < n
    · obtain ⟨LB, o, rfl, hB, hrg⟩ := line_rows HR.out (show k < ls.length by omega)
      have f1 : (k : Int) < (n : Int) := by omega
      have HLT := Lib.hid hlt
      have f3 : IntKind.i64.wrap ((k : Int) + 1) = ((k + 1 : Nat) : Int) := by have := HF.out; rw [IntWalk.i64_in _ (by omega)]; omega
      have HRK := Lib.hid (rangeAt_below hrg HB.out hB)
      have kd := line_cd HRK.out
      have HXY := Lib.hid (HTY.out k hlt)
      have HXN := Lib.hid (HTN.out k hlt)
      have HLE := Lib.hid (HTK.out k)
      clear hrg hB hk hlt
      generalize lineAt ls k = l at *
      generalize dirtyL (ls.take k) = m at *
      cases hd : l.d with
      | false =>
        rw [hd] at kd
        have HX := Lib.hid (HXN.out hd)
        clear hd
        go_wp2_with (first
          | (refine wpList_line_elem rfl _ _ rfl LB o n c k rfl rfl HLT.out ?_))
        go_roundw
        case rel => exact ⟨k + 1, HLT.out, by go_num, by rw [HX.out]; exact HO.out, HB.out⟩
        case measure => have := HLT.out; simp [intOf]; omega
      | true =>
        rw [hd] at kd
        have HX := Lib.hid (HXY.out hd)
        clear hd
        go_wp2_with (first
          | (refine wpList_line_elem rfl _ _ rfl LB o n c k rfl rfl HLT.out ?_)
          | (refine wpList_line_load rfl _ rfl LB (o + 131 * k) rfl l HRK.out ?_)
          | (refine wpList_line1 rfl _ rfl l rfl ?_)
          | (refine wpList_append_list elemLine rfl _ _ rfl w.heap.size wr.heap.size _ m [l] (some ⟨wr.heap.size, 0, none⟩) 1 1 rfl rfl rfl (HO.out.below (Nat.le_refl _) ((Below.refl _ wr).alloc (Nat.le_refl _) _)) (rows_line1 wr l) (by have := HLE.out; simp; omega) (by decide) (by have := HB.out.size; simp; omega) ?_
             intro v5 w5 ho5 hg5 hr5
             have O6 := Lib.hid ho5
             have B6 := Lib.hid ((HB.out.trans ((Below.refl _ wr).alloc HB.out.size _)).trans (below_own1 hg5 (HO.out.block) (by have := HB.out.size; simp; omega)))
             clear ho5 hg5 hr5))
        go_roundw
        case rel => exact ⟨k + 1, HLT.out, by go_num, by rw [HX.out]; exact O6.out, B6.out⟩
        case measure => have := HLT.out; simp [intOf]; omega
    · have f1 : ¬ (k : Int) < (n : Int) := by omega
      obtain rfl : k = n := by omega
      rw [HTE.out] at HO
      clear hlt hk
      go_wp2
      go_ret
      exact ⟨_, rfl, HO.out, HB.out⟩
end Go.Proofs.Ytlaclakndleonaa

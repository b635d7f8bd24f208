/- The contracts of package citadelref04's Constants and Begin, and of package digest's Constants: all are the table. They write nothing that was there. Condition: the package's variable holds the table. -/
import Derived.Test.YtibbnnechjmdmaaDoorPrimesC
import Derived.Test.YtibbnnechjmdmaaDoorEightS
import Derived.Test.YtibbnnechjmdmaaDoorSchC
namespace Go.Proofs.YtibbnnechjmdmaaDoor
open Go.ChangeShapes Go.WideShapes Go.ChangeAt Go.RowKit
attribute [local irreducible] rootN primeF tabK begK

def tabKTo (m : Nat) : Nat → Nat := fun j => if j < m then tabK j else 0
theorem tabKTo_step (m : Nat) {v : Int} (hv : v = (tabK m : Nat)) : (mk 64 (tabKTo m)).set m v = mk 64 (tabKTo (m + 1)) :=
  mk_set_is hv fun j _ => by
    unfold tabKTo
    by_cases e : j = m
    · subst e; rw [if_pos rfl, if_pos (by omega)]
    · rw [if_neg e]
      by_cases h : j < m
      · rw [if_pos h, if_pos (by omega)]
      · rw [if_neg h, if_neg (by omega)]
theorem tabKTo_end : mk 64 (tabKTo 64) = mk 64 tabK := mk_ext fun _ h => if_pos h
theorem tabKTo_zero : mk 64 (tabKTo 0) = mk 64 zeroK := mk_ext fun _ _ => if_neg (by omega)
attribute [local irreducible] tabKTo
set_option maxRecDepth 100000 in
set_option maxHeartbeats 2000000 in
theorem refConstants_any (w : World) : Calls Tryd.prog 14 #[] w fun e w' => e = .returned (.agg (cellsOf .u32 (mk 64 tabK))) ∧ Below w.heap.size w w' := by
  have hA := (IntBlk.new w .u32 24 (mk 64 zeroK)).alloc (.cells (cellsOf .u32 (mk 64 zeroK)) 24)
  have hB : IntBlk ((w.alloc (.cells (cellsOf .u32 (mk 64 zeroK)) 24)).alloc (.cells (cellsOf .u32 (mk 64 zeroK)) 24)) (w.heap.size + 1) .u32 24 (mk 64 (tabKTo 0)) := by
    rw [tabKTo_zero]; exact blk_two w .u32 24 (mk 64 zeroK) (.cells (cellsOf .u32 (mk 64 zeroK)) 24)
  have hL := below_two w (.cells (cellsOf .u32 (mk 64 zeroK)) 24) (.cells (cellsOf .u32 (mk 64 zeroK)) 24)
  have hS : ((w.alloc (.cells (cellsOf .u32 (mk 64 zeroK)) 24)).alloc (.cells (cellsOf .u32 (mk 64 zeroK)) 24)).heap.size = w.heap.size + 2 := by simp
  have HA := Lib.hid hA; have HB := Lib.hid hB; have HL := Lib.hid hL; have HS := Lib.hid hS
  clear hA hB hL hS
  go_enter Tryd.func14, Tryd.ntmps14
  go_wp2_with (first
    | (go_at_call 25; refine (primes_any 64 (by omega) (by omega) _).mono ?_; rintro e w1 ⟨B, c, rfl, hb0, hwt, hb1⟩
       have hB2 : w.heap.size + 2 ≤ B := Nat.le_trans (Nat.le_of_eq HS.out.symm) hb0
       have P1 := Lib.hid (HA.out.below hb1 HA.out.lt); have P2 := Lib.hid (HB.out.below hb1 HB.out.lt); have P3 := Lib.hid (HL.out.trans (hb1.mono (Nat.le_trans (Nat.le_add_right w.heap.size 2) (Nat.le_of_eq HS.out.symm)))); have P4 := Lib.hid hwt
       clear hb0 hwt hb1 HA HB HL HS)
    | fail)
  go_loopw [3] (fun v wr => ∃ i : Nat, i ≤ 64 ∧ v = .int .i64 i ∧ IntBlk wr w.heap.size .u32 24 (mk 64 zeroK) ∧ IntBlk wr (w.heap.size + 1) .u32 24 (mk 64 (tabKTo i)) ∧ WAt wr B 64 primeF ∧ Below w.heap.size w wr) (fun v _ => 64 - (intOf v).toNat)
  case atStart => exact ⟨0, by omega, rfl, P1.out, P2.out, P4.out, P3.out⟩
  case round =>
    clear P1 P2 P3 P4
    obtain ⟨i, hi, rfl, h1, h2, h3, h4⟩ := hrel
    have Q1 := Lib.hid h1; have Q2 := Lib.hid h2; have Q3 := Lib.hid h3; have Q4 := Lib.hid h4
    by_cases hlt : i < 64
    · have e1 : (i : Int) < 64 := by omega
      have hp := primeL_lt i (by omega)
      have hr : rootN 3 (primeF i) = tabK i := by unfold primeF; exact consts_all i hlt
      have hp' : primeF i < 65536 := by unfold primeF; exact hp
      have cx := h3.2 i hlt
      have l0 : (0 : Int) ≤ i := by omega
      have HST := Lib.hid (tabKTo_step i rfl)
      have hs2 := h2.lt
      obtain ⟨x, hx⟩ : ∃ x, primeF i = x := ⟨_, rfl⟩
      rw [hx] at hp' hr cx
      have HR := Lib.hid hr
      clear hp hr h1 h2 h3 h4 hx
      go_wp2_with (first
        | (go_at_call 26; refine (root_any x 3 hp' (by omega) _).mono ?_; rintro e w2 ⟨rfl, hb2⟩
           rw [HR.out]
           have R1 := Lib.hid (Q1.out.below hb2 Q1.out.lt); have R2 := Lib.hid (Q2.out.below hb2 Q2.out.lt); have R3 := Lib.hid (Q3.out.on hb2); have R4 := Lib.hid (Q4.out.trans (hb2.mono Q4.out.size))
           have cc := (Q2.out.below hb2 Q2.out.lt).cell (i := i) (by rw [mk_len]; exact hlt)
           have ff := (Q2.out.below hb2 Q2.out.lt).free i
           clear hb2 Q1 Q2 Q3 Q4)
        | fail)
      go_roundw
      case rel => exact ⟨i + 1, by omega, by go_num, R1.out.other (by show w.heap.size + 1 ≠ w.heap.size; omega) _, by rw [← HST.out]; exact R2.out.set i _, ⟨by simpa [World.setCell] using R3.out.1, fun j hj => (World.cell?_of_block (w := w2) (Below.heap_setCell w2 _ _ _ (by show B ≠ w.heap.size + 1; omega))).trans (R3.out.2 j hj)⟩, R4.out.setCell (by show w.heap.size ≤ w.heap.size + 1; omega) _⟩
      case measure => simp [intOf]; omega
    · have ei : i = 64 := by omega
      have hd1 : decide ((i : Int) < 64) = false := by simp; omega
      rw [ei, tabKTo_end] at h2
      have Q2' := Lib.hid h2
      clear h1 h2 h3 h4 ei
      go_wp2_with (first
        | (refine wpList_load_row rfl 24 _ rfl (w.heap.size + 1) rfl 24 (cellsOf .u32 (mk 64 tabK)) (0, 0) _ Q2'.out schedUnder rfl (schedSize _) ?_)
        | (refine wpList_store_row rfl 24 _ _ rfl w.heap.size (cellsOf .u32 (mk 64 tabK)) rfl rfl 24 (cellsOf .u32 (mk 64 zeroK)) Q1.out (schedSize _) (by rw [cellsOf_size, cellsOf_size, mk_len, mk_len]) (cellsOf_one _ _) ?_))
      refine bodyPost_ret (results_cell_row rfl _ _ w.heap.size 24 (cellsOf .u32 (mk 64 tabK)) (0, 0) _ rfl (Q1.out.setRow .u32 (mk 64 tabK)) schedUnder rfl (schedSize _)) rfl ⟨rfl, below_setRow Q4.out (Nat.le_refl _) _⟩

def begKTo (m : Nat) : Nat → Nat := fun j => if j < m then begK j else 0
theorem begKTo_step (m : Nat) {v : Int} (hv : v = (begK m : Nat)) : (mk 8 (begKTo m)).set m v = mk 8 (begKTo (m + 1)) :=
  mk_set_is hv fun j _ => by
    unfold begKTo
    by_cases e : j = m
    · subst e; rw [if_pos rfl, if_pos (by omega)]
    · rw [if_neg e]
      by_cases h : j < m
      · rw [if_pos h, if_pos (by omega)]
      · rw [if_neg h, if_neg (by omega)]
theorem begKTo_end : mk 8 (begKTo 8) = mk 8 begK := mk_ext fun _ h => if_pos h
theorem begKTo_zero : mk 8 (begKTo 0) = mk 8 zeroK := mk_ext fun _ _ => if_neg (by omega)
attribute [local irreducible] begKTo
set_option maxRecDepth 100000 in
set_option maxHeartbeats 2000000 in
theorem refBegin_any (w : World) : Calls Tryd.prog 15 #[] w fun e w' => e = .returned (.agg (cellsOf .u32 (mk 8 begK))) ∧ Below w.heap.size w w' := by
  have hA := (IntBlk.new w .u32 23 (mk 8 zeroK)).alloc (.cells (cellsOf .u32 (mk 8 zeroK)) 23)
  have hB : IntBlk ((w.alloc (.cells (cellsOf .u32 (mk 8 zeroK)) 23)).alloc (.cells (cellsOf .u32 (mk 8 zeroK)) 23)) (w.heap.size + 1) .u32 23 (mk 8 (begKTo 0)) := by
    rw [begKTo_zero]; exact blk_two w .u32 23 (mk 8 zeroK) (.cells (cellsOf .u32 (mk 8 zeroK)) 23)
  have hL := below_two w (.cells (cellsOf .u32 (mk 8 zeroK)) 23) (.cells (cellsOf .u32 (mk 8 zeroK)) 23)
  have hS : ((w.alloc (.cells (cellsOf .u32 (mk 8 zeroK)) 23)).alloc (.cells (cellsOf .u32 (mk 8 zeroK)) 23)).heap.size = w.heap.size + 2 := by simp
  have HA := Lib.hid hA; have HB := Lib.hid hB; have HL := Lib.hid hL; have HS := Lib.hid hS
  clear hA hB hL hS
  go_enter Tryd.func15, Tryd.ntmps15
  go_wp2_with (first
    | (go_at_call 25; refine (primes_any 8 (by omega) (by omega) _).mono ?_; rintro e w1 ⟨B, c, rfl, hb0, hwt, hb1⟩
       have hB2 : w.heap.size + 2 ≤ B := Nat.le_trans (Nat.le_of_eq HS.out.symm) hb0
       have P1 := Lib.hid (HA.out.below hb1 HA.out.lt); have P2 := Lib.hid (HB.out.below hb1 HB.out.lt); have P3 := Lib.hid (HL.out.trans (hb1.mono (Nat.le_trans (Nat.le_add_right w.heap.size 2) (Nat.le_of_eq HS.out.symm)))); have P4 := Lib.hid hwt
       clear hb0 hwt hb1 HA HB HL HS)
    | fail)
  go_loopw [3] (fun v wr => ∃ i : Nat, i ≤ 8 ∧ v = .int .i64 i ∧ IntBlk wr w.heap.size .u32 23 (mk 8 zeroK) ∧ IntBlk wr (w.heap.size + 1) .u32 23 (mk 8 (begKTo i)) ∧ WAt wr B 8 primeF ∧ Below w.heap.size w wr) (fun v _ => 8 - (intOf v).toNat)
  case atStart => exact ⟨0, by omega, rfl, P1.out, P2.out, P4.out, P3.out⟩
  case round =>
    clear P1 P2 P3 P4
    obtain ⟨i, hi, rfl, h1, h2, h3, h4⟩ := hrel
    have Q1 := Lib.hid h1; have Q2 := Lib.hid h2; have Q3 := Lib.hid h3; have Q4 := Lib.hid h4
    by_cases hlt : i < 8
    · have e1 : (i : Int) < 8 := by omega
      have hp := primeL_lt i (by omega)
      have hr : rootN 2 (primeF i) = begK i := by unfold primeF; exact begins_all i hlt
      have hp' : primeF i < 65536 := by unfold primeF; exact hp
      have cx := h3.2 i hlt
      have l0 : (0 : Int) ≤ i := by omega
      have HST := Lib.hid (begKTo_step i rfl)
      have hs2 := h2.lt
      obtain ⟨x, hx⟩ : ∃ x, primeF i = x := ⟨_, rfl⟩
      rw [hx] at hp' hr cx
      have HR := Lib.hid hr
      clear hp hr h1 h2 h3 h4 hx
      go_wp2_with (first
        | (go_at_call 26; refine (root_any x 2 hp' (by omega) _).mono ?_; rintro e w2 ⟨rfl, hb2⟩
           rw [HR.out]
           have R1 := Lib.hid (Q1.out.below hb2 Q1.out.lt); have R2 := Lib.hid (Q2.out.below hb2 Q2.out.lt); have R3 := Lib.hid (Q3.out.on hb2); have R4 := Lib.hid (Q4.out.trans (hb2.mono Q4.out.size))
           have cc := (Q2.out.below hb2 Q2.out.lt).cell (i := i) (by rw [mk_len]; exact hlt)
           have ff := (Q2.out.below hb2 Q2.out.lt).free i
           clear hb2 Q1 Q2 Q3 Q4)
        | fail)
      go_roundw
      case rel => exact ⟨i + 1, by omega, by go_num, R1.out.other (by show w.heap.size + 1 ≠ w.heap.size; omega) _, by rw [← HST.out]; exact R2.out.set i _, ⟨by simpa [World.setCell] using R3.out.1, fun j hj => (World.cell?_of_block (w := w2) (Below.heap_setCell w2 _ _ _ (by show B ≠ w.heap.size + 1; omega))).trans (R3.out.2 j hj)⟩, R4.out.setCell (by show w.heap.size ≤ w.heap.size + 1; omega) _⟩
      case measure => simp [intOf]; omega
    · have ei : i = 8 := by omega
      have hd1 : decide ((i : Int) < 8) = false := by simp; omega
      rw [ei, begKTo_end] at h2
      have Q2' := Lib.hid h2
      clear h1 h2 h3 h4 ei
      go_wp2_with (first
        | (refine wpList_load_row rfl 23 _ rfl (w.heap.size + 1) rfl 23 (cellsOf .u32 (mk 8 begK)) (0, 0) _ Q2'.out eightUnder rfl (eightSize _) ?_)
        | (refine wpList_store_row rfl 23 _ _ rfl w.heap.size (cellsOf .u32 (mk 8 begK)) rfl rfl 23 (cellsOf .u32 (mk 8 zeroK)) Q1.out (eightSize _) (by rw [cellsOf_size, cellsOf_size, mk_len, mk_len]) (cellsOf_one _ _) ?_))
      refine bodyPost_ret (results_cell_row rfl _ _ w.heap.size 23 (cellsOf .u32 (mk 8 begK)) (0, 0) _ rfl (Q1.out.setRow .u32 (mk 8 begK)) eightUnder rfl (eightSize _)) rfl ⟨rfl, below_setRow Q4.out (Nat.le_refl _) _⟩
end Go.Proofs.YtibbnnechjmdmaaDoor

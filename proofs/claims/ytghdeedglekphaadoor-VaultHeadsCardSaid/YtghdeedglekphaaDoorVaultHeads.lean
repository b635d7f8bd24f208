/- Which sector every head has, and which head every sector is: the statement VaultHeads, tied to the program's text. -/
import Derived.Test.YtghdeedglekphaaDoorVtEq
import Derived.Deep.DeepHandedRow
namespace Go.Proofs.YtghdeedglekphaaDoor.vaultHeads
open Go.ChangeShapes Go.WideShapes Go.ChangeAt Go.RowKit
set_option linter.unusedVariables false
theorem own : ownKnob Tryd.prog.godebug = none := by kernel_rfl
theorem ans_tuple (τ : List Int → List Int) (s : List Int) (hs : IsBytes s) : ∃ (z : Int) (P : List Int) (b : Bool), hdAns τ s = .tuple #[headV z P, .bool b] := by
  by_cases h : isHd τ s
  · exact ⟨_, _, _, hdAns_yes h⟩
  · exact ⟨_, _, _, hdAns_no h⟩
theorem one_byte (τ : List Int → List Int) : (secC (hdL τ 3 noRow))[7]? = some (.int .u8 3) := by
  unfold secC
  rw [bytC_get _ (by decide)]
  have : natF (hdL τ 3 noRow) 7 = 3 := by
    unfold hdL hdT
    rw [natF_left (by rw [List.length_append, numL_len]; omega), natF_left (by rw [numL_len]; omega)]
    decide
  rw [this]; rfl
theorem back_tuple (τ : List Int → List Int) {z : Int} {P : List Int} (h0 : 0 ≤ z) (h1 : z ≤ 9223372036854775807) (hP : IsRow88 P) : hdAns τ (hdL τ z P) = .tuple #[headV z P, .bool true] := by
  have e1 := count_hd τ P h0 h1
  have e2 := take_hd τ z hP
  rw [hdAns_yes (by unfold isHd; rw [e1, e2]; exact ⟨h0, rfl⟩), e1, e2]
attribute [local irreducible] nought tauK sumVal sumC secVal secC headV headC bytC rootsV rootK restK txtK hdT hdL numL noSec noRow fTo hdK takeP countL hdAns isHd hdP sameS
set_option maxRecDepth 100000 in
set_option maxHeartbeats 8000000 in
theorem walk (q0 : Option Addr) (n0 c0 : Nat) (a0 : Nat → Nat) (z : Int) (P : List Int) (f : Nat → Nat) (w0 : ∀ i, i < n0 → a0 i < 256) (l0 : n0 ≤ c0) (m0 : c0 ≤ maxLen) (hz0 : (Lit.int .i64 z).wf = true) (hP : IsRow88 P) (hf : ∀ i, i < 128 → f i < 256) (w : World) (hT : TabAt w) (y0 : BytesAt w q0 n0 a0) :
    Calls Tryd.prog 3 #[.slice q0 n0 c0, headV z P, .agg (cellsOf .u8 (mk 128 f))] w fun e w' => e = .returned (.bool true) ∧ Below w.heap.size w w' := by
  obtain ⟨s, hs, hsec⟩ : ∃ s, .agg (cellsOf .u8 (mk 128 f)) = secVal s ∧ IsSec s := ⟨mk 128 f, by unfold secVal; rw [show mk 128 (natF (mk 128 f)) = mk 128 f from mk_ext fun j hj => natF_mk hj], isSec_mk hf⟩
  rw [hs]
  clear hs hf
  by_cases hn : n0 ≤ 1000
  case neg =>
    have d1 : (1000 : Int) < (n0 : Int) := by omega
    have d3 : decide (1000 < n0) = true := decide_eq_true (by omega)
    clear w0 l0 m0 hz0 hP hsec hT y0
    generalize hS : w.heap.size = S at *
    have HS := Lib.hid hS
    clear hS
    go_enter Tryd.func3, Tryd.ntmps3
    go_wp2_with (first
      | (refine wpList_head_box rfl _ rfl z P rfl S HS.out ?_; intro w1 hx hb hs
         have B1 := Lib.hid hb; have S1 := Lib.hid hs; clear hx hb hs)
      | (refine wpList_cell_boxed rfl _ rfl s rfl (S + 1) S1.out ?_; intro w2 hx hb hs
         have B2 := Lib.hid (B1.out.trans (hb.mono (by omega))); clear hx hb hs))
    go_ret
    exact ⟨rfl, B2.out⟩
  case pos =>
  have d1 : ¬ ((1000 : Int) < (n0 : Int)) := by omega
  have d3 : decide (1000 < n0) = false := decide_eq_false (by omega)
  have hzr : z ≤ 9223372036854775807 := (bounds_i64 hz0).2
  have HK := Lib.hid (fun (V : World) (h : Below w.heap.size w V) => (⟨w0, l0, y0.below h, hT.on h⟩ : KeyAt V q0 n0 c0 a0))
  have TH := Lib.hid (fun (V : World) (h : Below w.heap.size w V) => TakeHead_any q0 n0 c0 a0 (by omega) s hsec V (HK.out V h))
  have RH := Lib.hid (fun (V : World) (h : Below w.heap.size w V) => refTakeHead_any q0 n0 c0 a0 (by omega) s hsec V (HK.out V h))
  have ON := Lib.hid (fun (V : World) (h : Below w.heap.size w V) => HeadCell_ok none 0 0 (fun _ => 0) (by decide) 3 noRow noRow_row (by decide) V (KeyAt.none (hT.on h)))
  have OB := Lib.hid (one_byte (tauK 0 fun _ => 0))
  obtain ⟨za, Pa, ba, hans⟩ := ans_tuple (tauK n0 a0) s hsec.2
  rw [hans] at TH RH
  have SX := Lib.hid sameS_self
  generalize hdL (tauK 0 fun _ => 0) 3 noRow = so at *
  by_cases hz : z < 0
  · have HN := Lib.hid (fun (V : World) (h : Below w.heap.size w V) => HeadCell_neg q0 n0 c0 z P hz V)
    have RN := Lib.hid (fun (V : World) (h : Below w.heap.size w V) => refHeadCell_neg q0 n0 c0 z P hz V)
    have IE := Lib.hid (fun (V : World) => Is_err 2 rfl V)
    clear w0 l0 m0 hz0 hP hsec hT y0 hn hans hz hzr HK
    generalize hS : w.heap.size = S at *
    have HS := Lib.hid hS
    clear hS
    go_enter Tryd.func3, Tryd.ntmps3
    go_wp2_with (first
      | (refine wpList_head_box rfl _ rfl z P rfl S HS.out ?_; intro w1 hx hb hs
         have H1 := Lib.hid hx; have B1 := Lib.hid hb; have S1 := Lib.hid hs; clear hx hb hs)
      | (refine wpList_cell_boxed rfl _ rfl s rfl (S + 1) S1.out ?_; intro w2 hx hb hs
         have H2 := Lib.hid (H1.out.belowM hb (by omega)); have C2 := Lib.hid hx; have B2 := Lib.hid (B1.out.trans (hb.mono (by omega))); have FAR2 := Lib.hid (show S + 2 ≤ w2.heap.size by omega); clear hx hb hs H1 B1 S1)
      | (refine wpList_head_load rfl _ rfl S rfl z P H2.out.row ?_)
      | (go_at_call 5; refine (HN.out w2 (HS.out.symm ▸ B2.out)).mono ?_; rintro e w3 ⟨rfl, hb⟩
         have H3 := Lib.hid (H2.out.below hb); have C3 := Lib.hid (C2.out.below hb); have B3 := Lib.hid (B2.out.trans (hb.mono (HS.out ▸ B2.out.size))); have FAR3 := Lib.hid (show S + 2 ≤ w3.heap.size by have := FAR2.out; have := hb.size; omega)
         clear hb H2 C2 B2 FAR2)
      | (refine wpList_cell_alloc rfl rfl w3.heap.size rfl ?_; intro w4 hx hb hs
         have H4 := Lib.hid (H3.out.below hb); have C4 := Lib.hid (C3.out.below hb); have X4 := Lib.hid hx; have B4 := Lib.hid (B3.out.trans (hb.mono (HS.out ▸ B3.out.size)))
         have FAR4 := Lib.hid (show S + 2 ≤ w3.heap.size ∧ w3.heap.size < w4.heap.size by have := FAR3.out; omega)
         clear hx hb hs H3 C3 B3 FAR3
         generalize w3.heap.size = BX at *)
      | (refine wpList_cell_store rfl _ _ rfl rfl BX rfl noSec rfl noSec X4.out ?_; intro w5 hx hb hs
         have H5 := Lib.hid (H4.out.but hb (by have := FAR4.out; omega)); have C5 := Lib.hid (C4.out.but hb (by have := FAR4.out; omega)); have X5 := Lib.hid hx; have B5 := Lib.hid (B4.out.trans (hb.below (by have := FAR4.out; omega) (HS.out ▸ B4.out.size)))
         have FAR5 := Lib.hid (show S + 2 ≤ BX ∧ BX < w5.heap.size by have := FAR4.out; omega)
         clear hx hb hs H4 C4 X4 B4 FAR4)
      | (refine wpList_head_load rfl _ rfl S rfl z P H5.out.row ?_)
      | (go_at_call 6; refine (RN.out w5 (HS.out.symm ▸ B5.out)).mono ?_; rintro e w6 ⟨rfl, hb⟩
         have H6 := Lib.hid (H5.out.below hb); have C6 := Lib.hid (C5.out.below hb); have X6 := Lib.hid (X5.out.below hb); have B6 := Lib.hid (B5.out.trans (hb.mono (HS.out ▸ B5.out.size))); have FAR6 := Lib.hid (show S + 2 ≤ BX ∧ BX < w6.heap.size by have := FAR5.out; have := hb.size; omega)
         clear hb H5 C5 X5 B5 FAR5)
      | (refine wpList_cell_alloc rfl rfl w6.heap.size rfl ?_; intro w7 hx hb hs
         have H7 := Lib.hid (H6.out.below hb); have C7 := Lib.hid (C6.out.below hb); have X7 := Lib.hid (X6.out.below hb); have Y7 := Lib.hid hx; have B7 := Lib.hid (B6.out.trans (hb.mono (HS.out ▸ B6.out.size)))
         have FAR7 := Lib.hid (show S + 2 ≤ BX ∧ BX < w6.heap.size ∧ w6.heap.size < w7.heap.size by have := FAR6.out; omega)
         clear hx hb hs H6 C6 X6 B6 FAR6
         generalize w6.heap.size = BY at *)
      | (refine wpList_cell_store rfl _ _ rfl rfl BY rfl noSec rfl noSec Y7.out ?_; intro w8 hx hb hs
         have H8 := Lib.hid (H7.out.but hb (by have := FAR7.out; omega)); have C8 := Lib.hid (C7.out.but hb (by have := FAR7.out; omega)); have X8 := Lib.hid (X7.out.but hb (by have := FAR7.out; omega)); have Y8 := Lib.hid hx; have B8 := Lib.hid (B7.out.trans (hb.below (by have := FAR7.out; omega) (HS.out ▸ B7.out.size)))
         have FAR8 := Lib.hid (show S + 2 ≤ BX ∧ BX < BY ∧ BY < w8.heap.size by have := FAR7.out; omega)
         clear hx hb hs H7 C7 X7 Y7 B7 FAR7)
      | (refine wpList_cell_load rfl _ rfl (S + 1) 0 rfl s C8.out.row ?_)
      | (go_at_call 7; refine (TH.out w8 (HS.out.symm ▸ B8.out)).mono ?_; rintro e w9 ⟨rfl, hb⟩
         have H9 := Lib.hid (H8.out.below hb); have C9 := Lib.hid (C8.out.below hb); have X9 := Lib.hid (X8.out.below hb); have Y9 := Lib.hid (Y8.out.below hb); have B9 := Lib.hid (B8.out.trans (hb.mono (HS.out ▸ B8.out.size))); have FAR9 := Lib.hid (show S + 2 ≤ BX ∧ BX < BY ∧ BY < w9.heap.size by have := FAR8.out; have := hb.size; omega)
         clear hb H8 C8 X8 Y8 B8 FAR8)
      | (refine wpList_head_alloc rfl rfl w9.heap.size rfl ?_; intro w10 hx hb hs
         have H10 := Lib.hid (H9.out.below hb); have C10 := Lib.hid (C9.out.below hb); have X10 := Lib.hid (X9.out.below hb); have Y10 := Lib.hid (Y9.out.below hb); have A10 := Lib.hid hx; have B10 := Lib.hid (B9.out.trans (hb.mono (HS.out ▸ B9.out.size)))
         have FAR10 := Lib.hid (show S + 2 ≤ BX ∧ BX < BY ∧ BY < w9.heap.size ∧ w9.heap.size < w10.heap.size by have := FAR9.out; omega)
         clear hx hb hs H9 C9 X9 Y9 B9 FAR9
         generalize w9.heap.size = BA at *)
      | (refine wpList_head_store rfl _ _ rfl rfl BA rfl za Pa rfl 0 noRow A10.out ?_; intro w11 hx hb hs
         have H11 := Lib.hid (H10.out.but hb (by have := FAR10.out; omega)); have C11 := Lib.hid (C10.out.but hb (by have := FAR10.out; omega)); have X11 := Lib.hid (X10.out.but hb (by have := FAR10.out; omega)); have Y11 := Lib.hid (Y10.out.but hb (by have := FAR10.out; omega)); have A11 := Lib.hid hx; have B11 := Lib.hid (B10.out.trans (hb.below (by have := FAR10.out; omega) (HS.out ▸ B10.out.size)))
         have FAR11 := Lib.hid (show S + 2 ≤ BX ∧ BX < BY ∧ BY < BA ∧ BA < w11.heap.size by have := FAR10.out; omega)
         clear hx hb hs H10 C10 X10 Y10 A10 B10 FAR10)
      | (refine wpList_cell_load rfl _ rfl (S + 1) 0 rfl s C11.out.row ?_)
      | (go_at_call 8; refine (RH.out w11 (HS.out.symm ▸ B11.out)).mono ?_; rintro e w12 ⟨rfl, hb⟩
         have H12 := Lib.hid (H11.out.below hb); have C12 := Lib.hid (C11.out.below hb); have X12 := Lib.hid (X11.out.below hb); have Y12 := Lib.hid (Y11.out.below hb); have A12 := Lib.hid (A11.out.below hb); have B12 := Lib.hid (B11.out.trans (hb.mono (HS.out ▸ B11.out.size))); have FAR12 := Lib.hid (show S + 2 ≤ BX ∧ BX < BY ∧ BY < BA ∧ BA < w12.heap.size by have := FAR11.out; have := hb.size; omega)
         clear hb H11 C11 X11 Y11 A11 B11 FAR11)
      | (refine wpList_head_alloc rfl rfl w12.heap.size rfl ?_; intro w13 hx hb hs
         have H13 := Lib.hid (H12.out.below hb); have C13 := Lib.hid (C12.out.below hb); have X13 := Lib.hid (X12.out.below hb); have Y13 := Lib.hid (Y12.out.below hb); have A13 := Lib.hid (A12.out.below hb); have D13 := Lib.hid hx; have B13 := Lib.hid (B12.out.trans (hb.mono (HS.out ▸ B12.out.size)))
         have FAR13 := Lib.hid (show S + 2 ≤ BX ∧ BX < BY ∧ BY < BA ∧ BA < w12.heap.size ∧ w12.heap.size < w13.heap.size by have := FAR12.out; omega)
         clear hx hb hs H12 C12 X12 Y12 A12 B12 FAR12
         generalize w12.heap.size = BD at *)
      | (refine wpList_head_store rfl _ _ rfl rfl BD rfl za Pa rfl 0 noRow D13.out ?_; intro w14 hx hb hs
         have H14 := Lib.hid (H13.out.but hb (by have := FAR13.out; omega)); have C14 := Lib.hid (C13.out.but hb (by have := FAR13.out; omega)); have X14 := Lib.hid (X13.out.but hb (by have := FAR13.out; omega)); have Y14 := Lib.hid (Y13.out.but hb (by have := FAR13.out; omega)); have A14 := Lib.hid (A13.out.but hb (by have := FAR13.out; omega)); have D14 := Lib.hid hx; have B14 := Lib.hid (B13.out.trans (hb.below (by have := FAR13.out; omega) (HS.out ▸ B13.out.size)))
         have FAR14 := Lib.hid (show S + 2 ≤ BX ∧ BX < BY ∧ BY < BA ∧ BA < BD ∧ BD < w14.heap.size by have := FAR13.out; omega)
         clear hx hb hs H13 C13 X13 Y13 A13 D13 B13 FAR13)
      | (refine wpList_head_build1 rfl _ rfl 3 rfl ?_)
      | (go_at_call 5; refine (ON.out w14 (HS.out.symm ▸ B14.out)).mono ?_; rintro e w15 ⟨rfl, hb⟩
         have H15 := Lib.hid (H14.out.below hb); have C15 := Lib.hid (C14.out.below hb); have X15 := Lib.hid (X14.out.below hb); have Y15 := Lib.hid (Y14.out.below hb); have A15 := Lib.hid (A14.out.below hb); have D15 := Lib.hid (D14.out.below hb); have B15 := Lib.hid (B14.out.trans (hb.mono (HS.out ▸ B14.out.size))); have FAR15 := Lib.hid (show S + 2 ≤ BX ∧ BX < BY ∧ BY < BA ∧ BA < BD ∧ BD < w15.heap.size by have := FAR14.out; have := hb.size; omega)
         clear hb H14 C14 X14 Y14 A14 D14 B14 FAR14)
      | (refine wpList_cell_alloc rfl rfl w15.heap.size rfl ?_; intro w16 hx hb hs
         have H16 := Lib.hid (H15.out.below hb); have C16 := Lib.hid (C15.out.below hb); have X16 := Lib.hid (X15.out.below hb); have Y16 := Lib.hid (Y15.out.below hb); have A16 := Lib.hid (A15.out.below hb); have D16 := Lib.hid (D15.out.below hb); have O16 := Lib.hid hx; have B16 := Lib.hid (B15.out.trans (hb.mono (HS.out ▸ B15.out.size)))
         have FAR16 := Lib.hid (show S + 2 ≤ BX ∧ BX < BY ∧ BY < BA ∧ BA < BD ∧ BD < w15.heap.size ∧ w15.heap.size < w16.heap.size by have := FAR15.out; omega)
         clear hx hb hs H15 C15 X15 Y15 A15 D15 B15 FAR15
         generalize w15.heap.size = BO at *)
      | (refine wpList_cell_store rfl _ _ rfl rfl BO rfl so rfl noSec O16.out ?_; intro w17 hx hb hs
         have H17 := Lib.hid (H16.out.but hb (by have := FAR16.out; omega)); have C17 := Lib.hid (C16.out.but hb (by have := FAR16.out; omega)); have X17 := Lib.hid (X16.out.but hb (by have := FAR16.out; omega)); have Y17 := Lib.hid (Y16.out.but hb (by have := FAR16.out; omega)); have A17 := Lib.hid (A16.out.but hb (by have := FAR16.out; omega)); have D17 := Lib.hid (D16.out.but hb (by have := FAR16.out; omega)); have O17 := Lib.hid hx; have B17 := Lib.hid (B16.out.trans (hb.below (by have := FAR16.out; omega) (HS.out ▸ B16.out.size)))
         have FAR17 := Lib.hid (show S + 2 ≤ BX ∧ BX < BY ∧ BY < BA ∧ BA < BD ∧ BD < BO ∧ BO < w17.heap.size by have := FAR16.out; omega)
         clear hx hb hs H16 C16 X16 Y16 A16 D16 O16 B16 FAR16
         have c7 := O17.out.cell OB.out)
      | (refine wpList_cell_load rfl _ rfl BX 0 rfl noSec X17.out.row ?_)
      | (refine wpList_cell_load rfl _ rfl BY 0 rfl noSec Y17.out.row ?_)
      | (refine wpList_cell_eql rfl _ _ rfl noSec noSec rfl rfl true (SX.out _) ?_)
      | (refine wpList_head_load rfl _ rfl BA rfl za Pa A17.out.row ?_)
      | (refine wpList_head_load rfl _ rfl BD rfl za Pa D17.out.row ?_)
      | (refine wpList_head_eql rfl _ _ rfl za Pa rfl rfl ?_)
      | (go_at_call 9; refine (IE.out _).mono ?_; rintro e w99 ⟨rfl, rfl⟩))
    go_ret
    exact ⟨rfl, B17.out⟩
  · have HN := Lib.hid (fun (V : World) (h : Below w.heap.size w V) => HeadCell_ok q0 n0 c0 a0 (by omega) z P hP hz V (HK.out V h))
    have RN := Lib.hid (fun (V : World) (h : Below w.heap.size w V) => refHeadCell_ok q0 n0 c0 a0 (by omega) z P hP hz V (HK.out V h))
    have TB := Lib.hid (fun (V : World) (h : Below w.heap.size w V) => TakeHead_any q0 n0 c0 a0 (by omega) (hdL (tauK n0 a0) z P) (hdL_sec (fun t => tauK_sum n0 a0 t) hP) V (HK.out V h))
    rw [back_tuple (tauK n0 a0) (by omega) hzr hP] at TB
    generalize hdL (tauK n0 a0) z P = sx at *
    clear w0 l0 m0 hz0 hP hsec hT y0 hn hans hz hzr HK
    generalize hS : w.heap.size = S at *
    have HS := Lib.hid hS
    clear hS
    go_enter Tryd.func3, Tryd.ntmps3
    go_wp2_with (first
      | (refine wpList_head_box rfl _ rfl z P rfl S HS.out ?_; intro w1 hx hb hs
         have H1 := Lib.hid hx; have B1 := Lib.hid hb; have S1 := Lib.hid hs; clear hx hb hs)
      | (refine wpList_cell_boxed rfl _ rfl s rfl (S + 1) S1.out ?_; intro w2 hx hb hs
         have H2 := Lib.hid (H1.out.belowM hb (by omega)); have C2 := Lib.hid hx; have B2 := Lib.hid (B1.out.trans (hb.mono (by omega))); have FAR2 := Lib.hid (show S + 2 ≤ w2.heap.size by omega); clear hx hb hs H1 B1 S1)
      | (refine wpList_head_load rfl _ rfl S rfl z P H2.out.row ?_)
      | (go_at_call 5; refine (HN.out w2 (HS.out.symm ▸ B2.out)).mono ?_; rintro e w3 ⟨rfl, hb⟩
         have H3 := Lib.hid (H2.out.below hb); have C3 := Lib.hid (C2.out.below hb); have B3 := Lib.hid (B2.out.trans (hb.mono (HS.out ▸ B2.out.size))); have FAR3 := Lib.hid (show S + 2 ≤ w3.heap.size by have := FAR2.out; have := hb.size; omega)
         clear hb H2 C2 B2 FAR2)
      | (refine wpList_cell_alloc rfl rfl w3.heap.size rfl ?_; intro w4 hx hb hs
         have H4 := Lib.hid (H3.out.below hb); have C4 := Lib.hid (C3.out.below hb); have X4 := Lib.hid hx; have B4 := Lib.hid (B3.out.trans (hb.mono (HS.out ▸ B3.out.size)))
         have FAR4 := Lib.hid (show S + 2 ≤ w3.heap.size ∧ w3.heap.size < w4.heap.size by have := FAR3.out; omega)
         clear hx hb hs H3 C3 B3 FAR3
         generalize w3.heap.size = BX at *)
      | (refine wpList_cell_store rfl _ _ rfl rfl BX rfl sx rfl noSec X4.out ?_; intro w5 hx hb hs
         have H5 := Lib.hid (H4.out.but hb (by have := FAR4.out; omega)); have C5 := Lib.hid (C4.out.but hb (by have := FAR4.out; omega)); have X5 := Lib.hid hx; have B5 := Lib.hid (B4.out.trans (hb.below (by have := FAR4.out; omega) (HS.out ▸ B4.out.size)))
         have FAR5 := Lib.hid (show S + 2 ≤ BX ∧ BX < w5.heap.size by have := FAR4.out; omega)
         clear hx hb hs H4 C4 X4 B4 FAR4)
      | (refine wpList_head_load rfl _ rfl S rfl z P H5.out.row ?_)
      | (go_at_call 6; refine (RN.out w5 (HS.out.symm ▸ B5.out)).mono ?_; rintro e w6 ⟨rfl, hb⟩
         have H6 := Lib.hid (H5.out.below hb); have C6 := Lib.hid (C5.out.below hb); have X6 := Lib.hid (X5.out.below hb); have B6 := Lib.hid (B5.out.trans (hb.mono (HS.out ▸ B5.out.size))); have FAR6 := Lib.hid (show S + 2 ≤ BX ∧ BX < w6.heap.size by have := FAR5.out; have := hb.size; omega)
         clear hb H5 C5 X5 B5 FAR5)
      | (refine wpList_cell_alloc rfl rfl w6.heap.size rfl ?_; intro w7 hx hb hs
         have H7 := Lib.hid (H6.out.below hb); have C7 := Lib.hid (C6.out.below hb); have X7 := Lib.hid (X6.out.below hb); have Y7 := Lib.hid hx; have B7 := Lib.hid (B6.out.trans (hb.mono (HS.out ▸ B6.out.size)))
         have FAR7 := Lib.hid (show S + 2 ≤ BX ∧ BX < w6.heap.size ∧ w6.heap.size < w7.heap.size by have := FAR6.out; omega)
         clear hx hb hs H6 C6 X6 B6 FAR6
         generalize w6.heap.size = BY at *)
      | (refine wpList_cell_store rfl _ _ rfl rfl BY rfl sx rfl noSec Y7.out ?_; intro w8 hx hb hs
         have H8 := Lib.hid (H7.out.but hb (by have := FAR7.out; omega)); have C8 := Lib.hid (C7.out.but hb (by have := FAR7.out; omega)); have X8 := Lib.hid (X7.out.but hb (by have := FAR7.out; omega)); have Y8 := Lib.hid hx; have B8 := Lib.hid (B7.out.trans (hb.below (by have := FAR7.out; omega) (HS.out ▸ B7.out.size)))
         have FAR8 := Lib.hid (show S + 2 ≤ BX ∧ BX < BY ∧ BY < w8.heap.size by have := FAR7.out; omega)
         clear hx hb hs H7 C7 X7 Y7 B7 FAR7)
      | (refine wpList_cell_load rfl _ rfl (S + 1) 0 rfl s C8.out.row ?_)
      | (go_at_call 7; refine (TH.out w8 (HS.out.symm ▸ B8.out)).mono ?_; rintro e w9 ⟨rfl, hb⟩
         have H9 := Lib.hid (H8.out.below hb); have C9 := Lib.hid (C8.out.below hb); have X9 := Lib.hid (X8.out.below hb); have Y9 := Lib.hid (Y8.out.below hb); have B9 := Lib.hid (B8.out.trans (hb.mono (HS.out ▸ B8.out.size))); have FAR9 := Lib.hid (show S + 2 ≤ BX ∧ BX < BY ∧ BY < w9.heap.size by have := FAR8.out; have := hb.size; omega)
         clear hb H8 C8 X8 Y8 B8 FAR8)
      | (refine wpList_head_alloc rfl rfl w9.heap.size rfl ?_; intro w10 hx hb hs
         have H10 := Lib.hid (H9.out.below hb); have C10 := Lib.hid (C9.out.below hb); have X10 := Lib.hid (X9.out.below hb); have Y10 := Lib.hid (Y9.out.below hb); have A10 := Lib.hid hx; have B10 := Lib.hid (B9.out.trans (hb.mono (HS.out ▸ B9.out.size)))
         have FAR10 := Lib.hid (show S + 2 ≤ BX ∧ BX < BY ∧ BY < w9.heap.size ∧ w9.heap.size < w10.heap.size by have := FAR9.out; omega)
         clear hx hb hs H9 C9 X9 Y9 B9 FAR9
         generalize w9.heap.size = BA at *)
      | (refine wpList_head_store rfl _ _ rfl rfl BA rfl za Pa rfl 0 noRow A10.out ?_; intro w11 hx hb hs
         have H11 := Lib.hid (H10.out.but hb (by have := FAR10.out; omega)); have C11 := Lib.hid (C10.out.but hb (by have := FAR10.out; omega)); have X11 := Lib.hid (X10.out.but hb (by have := FAR10.out; omega)); have Y11 := Lib.hid (Y10.out.but hb (by have := FAR10.out; omega)); have A11 := Lib.hid hx; have B11 := Lib.hid (B10.out.trans (hb.below (by have := FAR10.out; omega) (HS.out ▸ B10.out.size)))
         have FAR11 := Lib.hid (show S + 2 ≤ BX ∧ BX < BY ∧ BY < BA ∧ BA < w11.heap.size by have := FAR10.out; omega)
         clear hx hb hs H10 C10 X10 Y10 A10 B10 FAR10)
      | (refine wpList_cell_load rfl _ rfl (S + 1) 0 rfl s C11.out.row ?_)
      | (go_at_call 8; refine (RH.out w11 (HS.out.symm ▸ B11.out)).mono ?_; rintro e w12 ⟨rfl, hb⟩
         have H12 := Lib.hid (H11.out.below hb); have C12 := Lib.hid (C11.out.below hb); have X12 := Lib.hid (X11.out.below hb); have Y12 := Lib.hid (Y11.out.below hb); have A12 := Lib.hid (A11.out.below hb); have B12 := Lib.hid (B11.out.trans (hb.mono (HS.out ▸ B11.out.size))); have FAR12 := Lib.hid (show S + 2 ≤ BX ∧ BX < BY ∧ BY < BA ∧ BA < w12.heap.size by have := FAR11.out; have := hb.size; omega)
         clear hb H11 C11 X11 Y11 A11 B11 FAR11)
      | (refine wpList_head_alloc rfl rfl w12.heap.size rfl ?_; intro w13 hx hb hs
         have H13 := Lib.hid (H12.out.below hb); have C13 := Lib.hid (C12.out.below hb); have X13 := Lib.hid (X12.out.below hb); have Y13 := Lib.hid (Y12.out.below hb); have A13 := Lib.hid (A12.out.below hb); have D13 := Lib.hid hx; have B13 := Lib.hid (B12.out.trans (hb.mono (HS.out ▸ B12.out.size)))
         have FAR13 := Lib.hid (show S + 2 ≤ BX ∧ BX < BY ∧ BY < BA ∧ BA < w12.heap.size ∧ w12.heap.size < w13.heap.size by have := FAR12.out; omega)
         clear hx hb hs H12 C12 X12 Y12 A12 B12 FAR12
         generalize w12.heap.size = BD at *)
      | (refine wpList_head_store rfl _ _ rfl rfl BD rfl za Pa rfl 0 noRow D13.out ?_; intro w14 hx hb hs
         have H14 := Lib.hid (H13.out.but hb (by have := FAR13.out; omega)); have C14 := Lib.hid (C13.out.but hb (by have := FAR13.out; omega)); have X14 := Lib.hid (X13.out.but hb (by have := FAR13.out; omega)); have Y14 := Lib.hid (Y13.out.but hb (by have := FAR13.out; omega)); have A14 := Lib.hid (A13.out.but hb (by have := FAR13.out; omega)); have D14 := Lib.hid hx; have B14 := Lib.hid (B13.out.trans (hb.below (by have := FAR13.out; omega) (HS.out ▸ B13.out.size)))
         have FAR14 := Lib.hid (show S + 2 ≤ BX ∧ BX < BY ∧ BY < BA ∧ BA < BD ∧ BD < w14.heap.size by have := FAR13.out; omega)
         clear hx hb hs H13 C13 X13 Y13 A13 D13 B13 FAR13)
      | (refine wpList_head_build1 rfl _ rfl 3 rfl ?_)
      | (go_at_call 5; refine (ON.out w14 (HS.out.symm ▸ B14.out)).mono ?_; rintro e w15 ⟨rfl, hb⟩
         have H15 := Lib.hid (H14.out.below hb); have C15 := Lib.hid (C14.out.below hb); have X15 := Lib.hid (X14.out.below hb); have Y15 := Lib.hid (Y14.out.below hb); have A15 := Lib.hid (A14.out.below hb); have D15 := Lib.hid (D14.out.below hb); have B15 := Lib.hid (B14.out.trans (hb.mono (HS.out ▸ B14.out.size))); have FAR15 := Lib.hid (show S + 2 ≤ BX ∧ BX < BY ∧ BY < BA ∧ BA < BD ∧ BD < w15.heap.size by have := FAR14.out; have := hb.size; omega)
         clear hb H14 C14 X14 Y14 A14 D14 B14 FAR14)
      | (refine wpList_cell_alloc rfl rfl w15.heap.size rfl ?_; intro w16 hx hb hs
         have H16 := Lib.hid (H15.out.below hb); have C16 := Lib.hid (C15.out.below hb); have X16 := Lib.hid (X15.out.below hb); have Y16 := Lib.hid (Y15.out.below hb); have A16 := Lib.hid (A15.out.below hb); have D16 := Lib.hid (D15.out.below hb); have O16 := Lib.hid hx; have B16 := Lib.hid (B15.out.trans (hb.mono (HS.out ▸ B15.out.size)))
         have FAR16 := Lib.hid (show S + 2 ≤ BX ∧ BX < BY ∧ BY < BA ∧ BA < BD ∧ BD < w15.heap.size ∧ w15.heap.size < w16.heap.size by have := FAR15.out; omega)
         clear hx hb hs H15 C15 X15 Y15 A15 D15 B15 FAR15
         generalize w15.heap.size = BO at *)
      | (refine wpList_cell_store rfl _ _ rfl rfl BO rfl so rfl noSec O16.out ?_; intro w17 hx hb hs
         have H17 := Lib.hid (H16.out.but hb (by have := FAR16.out; omega)); have C17 := Lib.hid (C16.out.but hb (by have := FAR16.out; omega)); have X17 := Lib.hid (X16.out.but hb (by have := FAR16.out; omega)); have Y17 := Lib.hid (Y16.out.but hb (by have := FAR16.out; omega)); have A17 := Lib.hid (A16.out.but hb (by have := FAR16.out; omega)); have D17 := Lib.hid (D16.out.but hb (by have := FAR16.out; omega)); have O17 := Lib.hid hx; have B17 := Lib.hid (B16.out.trans (hb.below (by have := FAR16.out; omega) (HS.out ▸ B16.out.size)))
         have FAR17 := Lib.hid (show S + 2 ≤ BX ∧ BX < BY ∧ BY < BA ∧ BA < BD ∧ BD < BO ∧ BO < w17.heap.size by have := FAR16.out; omega)
         clear hx hb hs H16 C16 X16 Y16 A16 D16 O16 B16 FAR16
         have c7 := O17.out.cell OB.out)
      | (refine wpList_cell_load rfl _ rfl BY 0 rfl sx Y17.out.row ?_)
      | (go_at_call 7; refine (TB.out w17 (HS.out.symm ▸ B17.out)).mono ?_; rintro e w18 ⟨rfl, hb⟩
         have H18 := Lib.hid (H17.out.below hb); have C18 := Lib.hid (C17.out.below hb); have X18 := Lib.hid (X17.out.below hb); have Y18 := Lib.hid (Y17.out.below hb); have A18 := Lib.hid (A17.out.below hb); have D18 := Lib.hid (D17.out.below hb); have O18 := Lib.hid (O17.out.below hb); have B18 := Lib.hid (B17.out.trans (hb.mono (HS.out ▸ B17.out.size))); have FAR18 := Lib.hid (show S + 2 ≤ BX ∧ BX < BY ∧ BY < BA ∧ BA < BD ∧ BD < BO ∧ BO < w18.heap.size by have := FAR17.out; have := hb.size; omega)
         clear c7 hb H17 C17 X17 Y17 A17 D17 O17 B17 FAR17)
      | (refine wpList_head_alloc rfl rfl w18.heap.size rfl ?_; intro w19 hx hb hs
         have H19 := Lib.hid (H18.out.below hb); have C19 := Lib.hid (C18.out.below hb); have X19 := Lib.hid (X18.out.below hb); have Y19 := Lib.hid (Y18.out.below hb); have A19 := Lib.hid (A18.out.below hb); have D19 := Lib.hid (D18.out.below hb); have O19 := Lib.hid (O18.out.below hb); have K19 := Lib.hid hx; have B19 := Lib.hid (B18.out.trans (hb.mono (HS.out ▸ B18.out.size)))
         have FAR19 := Lib.hid (show S + 2 ≤ BX ∧ BX < BY ∧ BY < BA ∧ BA < BD ∧ BD < BO ∧ BO < w18.heap.size ∧ w18.heap.size < w19.heap.size by have := FAR18.out; omega)
         clear hx hb hs H18 C18 X18 Y18 A18 D18 O18 B18 FAR18
         generalize w18.heap.size = BK at *)
      | (refine wpList_head_store rfl _ _ rfl rfl BK rfl z P rfl 0 noRow K19.out ?_; intro w20 hx hb hs
         have H20 := Lib.hid (H19.out.but hb (by have := FAR19.out; omega)); have C20 := Lib.hid (C19.out.but hb (by have := FAR19.out; omega)); have X20 := Lib.hid (X19.out.but hb (by have := FAR19.out; omega)); have Y20 := Lib.hid (Y19.out.but hb (by have := FAR19.out; omega)); have A20 := Lib.hid (A19.out.but hb (by have := FAR19.out; omega)); have D20 := Lib.hid (D19.out.but hb (by have := FAR19.out; omega)); have O20 := Lib.hid (O19.out.but hb (by have := FAR19.out; omega)); have K20 := Lib.hid hx; have B20 := Lib.hid (B19.out.trans (hb.below (by have := FAR19.out; omega) (HS.out ▸ B19.out.size)))
         have FAR20 := Lib.hid (show S + 2 ≤ BX ∧ BX < BY ∧ BY < BA ∧ BA < BD ∧ BD < BO ∧ BO < BK ∧ BK < w20.heap.size by have := FAR19.out; omega)
         clear hx hb hs H19 C19 X19 Y19 A19 D19 O19 K19 B19 FAR19)
      | (refine wpList_head_load rfl _ rfl BK rfl z P K20.out.row ?_)
      | (refine wpList_head_load rfl _ rfl S rfl z P H20.out.row ?_)
      | (refine wpList_head_neq rfl _ _ rfl z P rfl rfl ?_)
      | (refine wpList_cell_load rfl _ rfl BX 0 rfl sx X20.out.row ?_)
      | (refine wpList_cell_load rfl _ rfl BY 0 rfl sx Y20.out.row ?_)
      | (refine wpList_cell_eql rfl _ _ rfl sx sx rfl rfl true (SX.out _) ?_)
      | (refine wpList_head_load rfl _ rfl BA rfl za Pa A20.out.row ?_)
      | (refine wpList_head_load rfl _ rfl BD rfl za Pa D20.out.row ?_)
      | (refine wpList_head_eql rfl _ _ rfl za Pa rfl rfl ?_))
    go_ret
    exact ⟨rfl, B20.out⟩

theorem laidOut : laidOutB Tryd.prog = true := by kernel_rfl
set_option maxRecDepth 100000 in
theorem lifted (os : Os) (started : os.Started) (H : Type) (enc : TypeId × Value → H) :
    ReturnsInHanded {} Tryd.checked os 3 .any (fun w args => (Rows.vaultHeadsSpec.pre enc Tryd.prog Tryd.f3 Rows.vaultHeadsRow.domain false w args ∧ laidMetH Tryd.prog Rows.vaultHeadsRow.laid w) ∧ sizedMet enc Tryd.prog Tryd.f3 (OpenSpec.ofChange Rows.vaultHeadsSpec) false w args) (Rows.vaultHeadsSpec.post enc Tryd.prog Tryd.f3 false true false false) := by
  refine returnsInHanded_of_change_and (C := Tryd.checked) (X := fun w _ => laidMetH Tryd.prog Rows.vaultHeadsRow.laid w) (fun _ _ _ hh h => h.of_heap hh) own started (by kernel_rfl) Tryd.func3
    (ChangeSpec.witness_shaped (enc := enc) (C := Tryd.checked) (os := os) (X := fun w _ => laidMetH Tryd.prog Rows.vaultHeadsRow.laid w) false (World.laidAll Tryd.prog os Rows.vaultHeadsRow.laid) #[.slice none 0 0, .agg #[.int .i64 0, .int .u8 0, .int .u8 0, .int .u8 0, .int .u8 0, .int .u8 0, .int .u8 0, .int .u8 0, .int .u8 0, .int .u8 0, .int .u8 0, .int .u8 0, .int .u8 0, .int .u8 0, .int .u8 0, .int .u8 0, .int .u8 0, .int .u8 0, .int .u8 0, .int .u8 0, .int .u8 0, .int .u8 0, .int .u8 0, .int .u8 0, .int .u8 0, .int .u8 0, .int .u8 0, .int .u8 0, .int .u8 0, .int .u8 0, .int .u8 0, .int .u8 0, .int .u8 0, .int .u8 0, .int .u8 0, .int .u8 0, .int .u8 0, .int .u8 0, .int .u8 0, .int .u8 0, .int .u8 0, .int .u8 0, .int .u8 0, .int .u8 0, .int .u8 0, .int .u8 0, .int .u8 0, .int .u8 0, .int .u8 0, .int .u8 0, .int .u8 0, .int .u8 0, .int .u8 0, .int .u8 0, .int .u8 0, .int .u8 0, .int .u8 0, .int .u8 0, .int .u8 0, .int .u8 0, .int .u8 0, .int .u8 0, .int .u8 0, .int .u8 0, .int .u8 0, .int .u8 0, .int .u8 0, .int .u8 0, .int .u8 0, .int .u8 0, .int .u8 0, .int .u8 0, .int .u8 0, .int .u8 0, .int .u8 0, .int .u8 0, .int .u8 0, .int .u8 0, .int .u8 0, .int .u8 0, .int .u8 0, .int .u8 0, .int .u8 0, .int .u8 0, .int .u8 0, .int .u8 0, .int .u8 0, .int .u8 0, .int .u8 0], .agg #[.int .u8 0, .int .u8 0, .int .u8 0, .int .u8 0, .int .u8 0, .int .u8 0, .int .u8 0, .int .u8 0, .int .u8 0, .int .u8 0, .int .u8 0, .int .u8 0, .int .u8 0, .int .u8 0, .int .u8 0, .int .u8 0, .int .u8 0, .int .u8 0, .int .u8 0, .int .u8 0, .int .u8 0, .int .u8 0, .int .u8 0, .int .u8 0, .int .u8 0, .int .u8 0, .int .u8 0, .int .u8 0, .int .u8 0, .int .u8 0, .int .u8 0, .int .u8 0, .int .u8 0, .int .u8 0, .int .u8 0, .int .u8 0, .int .u8 0, .int .u8 0, .int .u8 0, .int .u8 0, .int .u8 0, .int .u8 0, .int .u8 0, .int .u8 0, .int .u8 0, .int .u8 0, .int .u8 0, .int .u8 0, .int .u8 0, .int .u8 0, .int .u8 0, .int .u8 0, .int .u8 0, .int .u8 0, .int .u8 0, .int .u8 0, .int .u8 0, .int .u8 0, .int .u8 0, .int .u8 0, .int .u8 0, .int .u8 0, .int .u8 0, .int .u8 0, .int .u8 0, .int .u8 0, .int .u8 0, .int .u8 0, .int .u8 0, .int .u8 0, .int .u8 0, .int .u8 0, .int .u8 0, .int .u8 0, .int .u8 0, .int .u8 0, .int .u8 0, .int .u8 0, .int .u8 0, .int .u8 0, .int .u8 0, .int .u8 0, .int .u8 0, .int .u8 0, .int .u8 0, .int .u8 0, .int .u8 0, .int .u8 0, .int .u8 0, .int .u8 0, .int .u8 0, .int .u8 0, .int .u8 0, .int .u8 0, .int .u8 0, .int .u8 0, .int .u8 0, .int .u8 0, .int .u8 0, .int .u8 0, .int .u8 0, .int .u8 0, .int .u8 0, .int .u8 0, .int .u8 0, .int .u8 0, .int .u8 0, .int .u8 0, .int .u8 0, .int .u8 0, .int .u8 0, .int .u8 0, .int .u8 0, .int .u8 0, .int .u8 0, .int .u8 0, .int .u8 0, .int .u8 0, .int .u8 0, .int .u8 0, .int .u8 0, .int .u8 0, .int .u8 0, .int .u8 0, .int .u8 0, .int .u8 0, .int .u8 0, .int .u8 0]] 8 (World.laidAll_os _ _ _)
      (World.shaped_of_ZipB (by kernel_rfl) (by kernel_rfl)) (by kernel_rfl) (by kernel_rfl) (by kernel_rfl)
      (by rw [MakeChecks.laidMetH_plain _ _ _ (by kernel_rfl)]; exact laidMet_laidAll _ (by kernel_rfl) (by kernel_rfl))) ?_
  intro W base args ds gs before hval0 hW hcnd hsz hL _
  have hT := tab_of_laid hL
  have hval : ∀ (j : Nat) t v, Tryd.f3.params[j]? = some t → args[j]? = some v → Value.okWide Tryd.prog W .any base t v := hval0
  have hW' := hW
  obtain ⟨p, q, hA0, hV, rfl, hfz, hnd⟩ := hW
  have hA : DataW.TrodAll enc Tryd.prog W 0 (fun _ => true) true Tryd.f3.params.toList args.toList ds p := hA0
  rw [Tryd.params3] at hA hval
  obtain ⟨v0, vs0, d0, ds0, p0, q0, hargs, rfl, rfl, h0, r0⟩ := trodAll_cons hA
  obtain ⟨v1, vs1, d1, ds1, p1, q1, rfl, rfl, rfl, h1, r1⟩ := trodAll_cons r0
  obtain ⟨v2, vs2, d2, ds2, p2, q2, rfl, rfl, rfl, h2, r2⟩ := trodAll_cons r1
  obtain ⟨rfl, rfl, rfl⟩ := trodAll_nil r2
  obtain rfl : args = #[v0, v1, v2] := by cases args; simp_all
  obtain ⟨rfl, rfl⟩ := trodVars_none hV
  have k0 := h0
  have lt0 : ∀ x ∈ p0, x.block < W.heap.size := by obtain ⟨m, hm⟩ := k0; exact DataW.trod_lt m _ _ _ hm
  obtain ⟨q0, n0, c0, a0, rfl, w0, y0, l0, m0⟩ := open_byteslice (hval 0 22 v0 rfl rfl) h0
  have k1 := h1
  have lt1 : ∀ x ∈ p1, x.block < W.heap.size := by obtain ⟨m, hm⟩ := k1; exact DataW.trod_lt m _ _ _ hm
  obtain ⟨z1, a1, rfl, w1, x1⟩ := open_head (hval 1 28 v1 rfl rfl) h1
  have k2 := h2
  have lt2 : ∀ x ∈ p2, x.block < W.heap.size := by obtain ⟨m, hm⟩ := k2; exact DataW.trod_lt m _ _ _ hm
  obtain ⟨a2, w2, rfl⟩ := open_bytes Tryd.underlying30 Tryd.underlying5 (by kernel_rfl) (by kernel_rfl) (hval 2 30 v2 rfl rfl) h2
  clear hA0 hval0
  refine (walk q0 n0 c0 a0 z1 a1 a2 w0 l0 m0 w1 x1 w2 W hT y0).mono fun e W' ⟨he, bel⟩ => ?_
  subst he
  exact ⟨_, rfl, _, _, _, [], _, [], hW', trodAll_mk1 (shut_bool Tryd.underlying4 _), (trodAll_cons_mk (Below.trod laidOut (by kernel_rfl) (of_decide_eq_true (by kernel_rfl)) k0 bel lt0) (trodAll_cons_mk (Below.trod laidOut (by kernel_rfl) (of_decide_eq_true (by kernel_rfl)) k1 bel lt1) (trodAll_cons_mk (Below.trod laidOut (by kernel_rfl) (of_decide_eq_true (by kernel_rfl)) k2 bel lt2) trodAll_mk0))), rfl, bel.frame _, fun h => by cases h⟩

theorem over : Rows.vaultHeadsRow.holds Tryd.pinned (OpenSpec.ofChange Rows.vaultHeadsSpec) :=
  OpenClaim.holds_of_wide 3 Tryd.f3 rfl rfl rfl rfl rfl rfl rfl ⟨rfl, rfl, rfl, rfl, rfl⟩ rfl rfl rfl rfl rfl (by kernel_rfl) Tryd.func3 (by kernel_rfl)
    (of_decide_eq_true (by kernel_rfl)) (by unfold Func.isWrapper; first | (rw [if_pos (by decide +kernel)]; kernel_rfl) | (rw [if_neg (by decide +kernel)]; exact ⟨rfl, rfl⟩))
    (fun os started H enc _ => lifted os started H enc)

set_option maxRecDepth 100000 in
theorem proved : Rows.VaultHeadsCardSaid :=
  Claim7.holds_tied_plain_at .later [] [.data] true (true, "c2c55f2df901e1abbdb2cabfb0729378e22169877fe7c90cd93a8fe0c3e1ba08") true
    over (fun _ h => by cases h) (by kernel_rfl) (fun _ h => by cases h) vaultHeads_row_tie rfl ⟨rfl, rfl⟩ (by kernel_rfl) rfl
    (fun f fn hf hfn => by
      obtain rfl : f = 3 := Option.some.inj ((show Tryd.prog.funcNamed "citadel/citadellaw12.VaultHeads" = some 3 by kernel_rfl).symm.trans hf) |>.symm
      obtain rfl : fn = Tryd.f3 := (Option.some.inj (Tryd.func3.symm.trans hfn)).symm
      exact ⟨by kernel_rfl, fun j t ht => by
        rw [Tryd.params3] at ht
        rcases j with _ | _ | _ | j
        · obtain rfl : t = 22 := by simpa using ht.symm
          exact (show Tryd.prog.wantsStandIn 22 = false by kernel_rfl)
        · obtain rfl : t = 28 := by simpa using ht.symm
          exact (show Tryd.prog.wantsStandIn 28 = false by kernel_rfl)
        · obtain rfl : t = 30 := by simpa using ht.symm
          exact (show Tryd.prog.wantsStandIn 30 = false by kernel_rfl)
        · simp at ht⟩)
    (by kernel_rfl)
end Go.Proofs.YtghdeedglekphaaDoor.vaultHeads

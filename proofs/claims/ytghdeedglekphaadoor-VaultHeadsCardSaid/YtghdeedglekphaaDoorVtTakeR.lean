/- The contract of citadelref12's TakeHead. Conditions: the key has no more than 80,000 bytes; a sector is 128 bytes. -/
import Derived.Test.YtghdeedglekphaaDoorVtTakeH
namespace Go.Proofs.YtghdeedglekphaaDoor
open Go.ChangeShapes Go.WideShapes Go.ChangeAt Go.RowKit
set_option linter.unusedVariables false
/-! ### A head some of whose bytes are laid -/
def pK (A : Nat → Bool) (g : Nat → Nat) : Nat → Nat := fun j => if A j then g j else 0
def hdP (z : Int) (A : Nat → Bool) (g : Nat → Nat) : List Value := headC z (mk 88 (pK A g))
theorem hdP_len (z : Int) (A : Nat → Bool) (g : Nat → Nat) : (hdP z A g).length = 89 := headC_len _ _
theorem hdP_ext (z : Int) {A A' : Nat → Bool} (g : Nat → Nat) (h : ∀ j, j < 88 → A j = A' j) : hdP z A g = hdP z A' g := by
  unfold hdP
  rw [show mk 88 (pK A g) = mk 88 (pK A' g) from mk_ext fun j hj => by unfold pK; rw [h j hj]]
theorem hdP_put (z : Int) (A : Nat → Bool) (g : Nat → Nat) {k : Nat} (hk : k < 88) : (hdP z A g).set (1 + k) (.int .u8 (g k : Nat)) = hdP z (fun j => A j || j == k) g := by
  apply List.ext_getElem?
  intro i
  rw [List.getElem?_set]
  unfold hdP
  by_cases e : 1 + k = i
  · subst e
    rw [if_pos rfl, if_pos (by rw [headC_len]; omega), headC_get _ _ hk, natF_mk hk]
    unfold pK
    rw [if_pos (by simp)]
  · rw [if_neg e]
    rcases i with _ | i
    · rw [headC_count, headC_count]
    · by_cases hi : i < 88
      · rw [Nat.add_comm i 1, headC_get _ _ hi, headC_get _ _ hi, natF_mk hi, natF_mk hi]
        have : pK A g i = pK (fun j => A j || j == k) g i := by
          unfold pK
          have h0 : (i == k) = false := by simp; omega
          show (if A i then g i else 0) = if (A i || i == k) then g i else 0
          rw [h0, Bool.or_false]
        rw [this]
      · rw [List.getElem?_eq_none (by rw [headC_len]; omega), List.getElem?_eq_none (by rw [headC_len]; omega)]
def A1 (i : Nat) : Nat → Bool := fun j => decide (j < i) || (decide (32 ≤ j) && decide (j < 32 + i))
def A2 (i : Nat) : Nat → Bool := fun j => decide (j < 64 + i)
theorem A1_zero (z : Int) (g : Nat → Nat) : headC z noRow = hdP z (A1 0) g := by
  unfold hdP
  rw [show mk 88 (pK (A1 0) g) = noRow from mk_ext fun j hj => by
    unfold pK A1 zeroK
    rw [if_neg (by simp)]]
theorem A1_next (z : Int) (g : Nat → Nat) {i : Nat} (hi : i < 32) : ((hdP z (A1 i) g).set (1 + i) (.int .u8 (g i : Nat))).set (33 + i) (.int .u8 (g (32 + i) : Nat)) = hdP z (A1 (i + 1)) g := by
  rw [hdP_put z _ g (show i < 88 by omega), show 33 + i = 1 + (32 + i) by omega, hdP_put z _ g (show 32 + i < 88 by omega)]
  refine hdP_ext z g fun j hj => ?_
  show ((A1 i j || j == i) || j == 32 + i) = A1 (i + 1) j
  unfold A1
  rw [Bool.eq_iff_iff]
  simp
  omega
theorem A1_all (z : Int) (g : Nat → Nat) : hdP z (A1 32) g = hdP z (A2 0) g := hdP_ext z g fun j hj => by
  unfold A1 A2
  rw [Bool.eq_iff_iff]
  simp
  omega
theorem A2_next (z : Int) (g : Nat → Nat) {i : Nat} (hi : i < 24) : (hdP z (A2 i) g).set (65 + i) (.int .u8 (g (64 + i) : Nat)) = hdP z (A2 (i + 1)) g := by
  rw [show 65 + i = 1 + (64 + i) by omega, hdP_put z _ g (show 64 + i < 88 by omega)]
  refine hdP_ext z g fun j hj => ?_
  show (A2 i j || j == 64 + i) = A2 (i + 1) j
  unfold A2
  rw [Bool.eq_iff_iff]
  simp
  omega
theorem A2_all (z : Int) (s : List Int) : hdP z (A2 24) (fun j => natF s (8 + j)) = headC z (takeP s) := by
  unfold hdP takeP
  rw [show mk 88 (pK (A2 24) fun j => natF s (8 + j)) = mk 88 fun j => natF s (8 + j) from mk_ext fun j hj => by
    unfold pK A2
    rw [if_pos (by simp; omega)]]
theorem sec_byte (s : List Int) {j : Nat} (h : j < 128) : (secC s)[j]? = some (.int .u8 (natF s j : Nat)) := bytC_get _ h
theorem sameS_self (s : List Int) : sameS s s = true := by unfold sameS; exact beq_self_eq_true _
theorem sameS_not {c d : List Int} (hc : IsSec c) (hd : IsSec d) (h : c ≠ d) : sameS c d = false := by
  cases e : sameS c d with
  | false => rfl
  | true => exact absurd ((sameS_iff hc hd).1 e) h
attribute [local irreducible] nought tauK sumVal sumC secVal secC headV headC bytC rootsV rootK restK txtK hdT hdL numL noSec noRow fTo hdK takeP countL hdAns isHd hdP A1 A2 sameS
set_option maxRecDepth 100000 in
set_option maxHeartbeats 4000000 in
theorem refTakeHead_neg (kp : Option Addr) (n kc : Nat) (g : Nat → Nat) (hn : n ≤ 80000) (s : List Int) (hsec : IsSec s) (hz : countL s < 0) (w : World) (hk : KeyAt w kp n kc g) :
    Calls Tryd.prog 8 #[.slice kp n kc, secVal s] w fun e w' => e = .returned (.tuple #[headV 0 noRow, .bool false]) ∧ Below w.heap.size w w' := by
  have RT := Lib.hid (fun (W : World) B (h : CellB W B (secC s)) => refTake_ok (some ⟨B, 0, none⟩) 128 128 (natF s) (fun i _ => natF_lt hsec.2 i) 8 (.inr (.inr (.inr rfl))) (by decide) W (cell_bytes_at h))
  have CE := Lib.hid (show IntKind.i64.wrap (valN 8 (natF s) : Nat) = countL s by unfold countL; rfl)
  have SB := Lib.hid (fun j (h : j < 128) => sec_byte s h)
  have Z1 := Lib.hid (A1_zero (countL s) fun j => natF s (8 + j)); have N1 := Lib.hid (fun i (h : i < 32) => A1_next (countL s) (fun j => natF s (8 + j)) h)
  have E1 := Lib.hid (A1_all (countL s) fun j => natF s (8 + j)); have N2 := Lib.hid (fun i (h : i < 24) => A2_next (countL s) (fun j => natF s (8 + j)) h); have E2 := Lib.hid (A2_all (countL s) s)
  have PL := Lib.hid (fun A => hdP_len (countL s) A fun j => natF s (8 + j))
  have HN := Lib.hid (fun (W : World) => refHeadCell_neg kp n kc (countL s) (takeP s) hz W)
  clear hsec hz hk hn
  generalize countL s = z at *
  generalize takeP s = P at *
  generalize hS : w.heap.size = S at *
  have HS := Lib.hid hS
  clear hS
  go_enter Tryd.func8, Tryd.ntmps8
  go_wp2_with (first
    | (refine wpList_cell_boxed rfl _ rfl s rfl S HS.out ?_; intro w1 hx hb hs
       have C1 := Lib.hid hx; have B1 := Lib.hid hb; have S1 := Lib.hid hs; clear hx hb hs)
    | (refine wpList_head_alloc rfl rfl (S + 1) S1.out ?_; intro w2 hx hb hs
       have C2 := Lib.hid (C1.out.belowM hb (by omega)); have R2 := Lib.hid hx; have B2 := Lib.hid (B1.out.trans (hb.mono (by omega))); have S2 := Lib.hid (show S + 2 ≤ w2.heap.size by omega)
       clear hx hb hs C1 B1 S1)
    | (refine wpList_arr_slice rfl 30 5 128 secUnd rfl _ rfl S 0 rfl ?_)
    | (go_at_call 18; refine (RT.out w2 S C2.out).mono ?_; rintro e w3 ⟨rfl, rfl⟩
       rw [CE.out]
       have C3 := C2; have R3 := R2; have B3 := B2; have S3 := S2
       clear C2 R2 B2 S2 RT)
    | (refine wpList_head_build1 rfl _ rfl z rfl ?_)
    | (refine wpList_head_alloc rfl rfl w2.heap.size rfl ?_; intro w4 hx hb hs
       have C4 := Lib.hid (C3.out.below hb); have R4 := Lib.hid (R3.out.below hb); have H4 := Lib.hid hx; have B4 := Lib.hid (B3.out.trans (hb.mono (HS.out ▸ B3.out.size))); have S4 := Lib.hid (show S + 2 ≤ w2.heap.size ∧ w2.heap.size < w4.heap.size from ⟨S3.out, by omega⟩)
       clear hx hb hs C3 R3 B3 S3
       generalize w2.heap.size = H at *)
    | (refine wpList_head_store rfl _ _ rfl rfl H rfl z noRow rfl 0 noRow H4.out ?_; intro w5 hx hb hs
       rw [Z1.out] at hx
       have H5 := Lib.hid hx; have C5 := Lib.hid (C4.out.but hb (by have := S4.out; omega)); have R5 := Lib.hid (R4.out.but hb (by have := S4.out; omega)); have B5 := Lib.hid (B4.out.trans (hb.below (by have := S4.out; omega) (HS.out ▸ B4.out.size)))
       clear hx hb hs H4 C4 R4 B4))
  go_loopw [9] (fun v9 wr => ∃ i : Nat, i ≤ 32 ∧ v9 = .int .i64 i ∧ CellB wr H (hdP z (A1 i) fun j => natF s (8 + j)) ∧ CellB wr S (secC s) ∧ CellB wr (S + 1) (headC 0 noRow) ∧ Below S w wr) (fun v9 _ => 32 - (intOf v9).toNat)
  case atStart => exact ⟨0, by omega, rfl, H5.out, C5.out, R5.out, B5.out⟩
  case round =>
    obtain ⟨i, hi2, rfl, hh, hc, hr, hb⟩ := hrel
    have HH := Lib.hid hh; have CC := Lib.hid hc; have RR := Lib.hid hr; have BB := Lib.hid hb
    clear hh hc hr hb H5 C5 R5 B5
    by_cases hlt : i < 32
    · have f1 : (i : Int) < 32 := by omega
      have f2 : (0 : Int) ≤ i := by omega
      have f3 : IntKind.i64.wrap ((i : Int) + 1) = ((i + 1 : Nat) : Int) := by rw [IntWalk.i64_in _ (by omega)]; omega
      obtain ⟨p8, h8⟩ : ∃ p8, 8 + i = p8 := ⟨_, rfl⟩
      obtain ⟨p40, h40⟩ : ∃ p40, 40 + i = p40 := ⟨_, rfl⟩
      have f4 : IntKind.i64.wrap (8 + (i : Int)) = (p8 : Int) := by rw [IntWalk.i64_in _ (by omega)]; omega
      have f5 : IntKind.i64.wrap (40 + (i : Int)) = (p40 : Int) := by rw [IntWalk.i64_in _ (by omega)]; omega
      have f6 : (p8 : Int) < 128 := by omega
      have f7 : (p40 : Int) < 128 := by omega
      have HLT := Lib.hid hlt
      have H8 := Lib.hid h8; have H40 := Lib.hid h40
      have NX := Lib.hid (N1.out i hlt)
      have cs8 := CC.out.cell (SB.out p8 (by omega))
      have CS40 := Lib.hid (SB.out p40 (by omega))
      clear h8 h40 N1 N2
      go_wp2_with (first
        | (refine wpList_roots_addr rfl _ _ rfl H 1 0 rfl rfl (by decide) ?_)
        | (refine wpList_roots_addr rfl _ _ rfl H 1 1 rfl rfl (by decide) ?_)
        | (refine wpList_byte_put rfl _ _ rfl rfl H (1 + i) rfl (natF s p8 : Nat) rfl _ HH.out (by rw [PL.out]; have := HLT.out; omega) ?_; intro w2 hx hb hs
           have H2 := Lib.hid hx; have C2 := Lib.hid (CC.out.but hb (by have := S4.out; omega)); have R2 := Lib.hid (RR.out.but hb (by have := S4.out; omega)); have B2 := Lib.hid (BB.out.trans (hb.below (by have := S4.out; omega) (HS.out ▸ BB.out.size)))
           have cs40 := C2.out.cell CS40.out
           clear hx hb hs cs8)
        | (refine wpList_byte_put rfl _ _ rfl rfl H (33 + i) rfl (natF s p40 : Nat) rfl _ H2.out (by rw [List.length_set, PL.out]; have := HLT.out; omega) ?_; intro w3 hx hb hs
           have hx2 : CellB w3 H (hdP z (A1 (i + 1)) fun j => natF s (8 + j)) := by
             rw [← NX.out]
             have e1 := H8.out; have e2 := H40.out
             subst e1; rw [show 8 + (32 + i) = p40 by omega]; exact hx
           have H3 := Lib.hid hx2; have C3 := Lib.hid (C2.out.but hb (by have := S4.out; omega)); have R3 := Lib.hid (R2.out.but hb (by have := S4.out; omega)); have B3 := Lib.hid (B2.out.trans (hb.below (by have := S4.out; omega) (HS.out ▸ B2.out.size)))
           clear hx hx2 hb hs cs40 H2 C2 R2 B2))
      go_roundw
      case rel => exact ⟨i + 1, HLT.out, by go_num, H3.out, C3.out, R3.out, B3.out⟩
      case measure => have := HLT.out; simp [intOf]; omega
    · obtain rfl : i = 32 := by omega
      have f1 : ¬ ((32 : Nat) : Int) < 32 := by omega
      have hh := HH.out
      rw [E1.out] at hh
      have HX := Lib.hid hh
      clear hh HH N1
      go_wp2
      go_loopw [10] (fun v10 wr => ∃ i : Nat, i ≤ 24 ∧ v10 = .int .i64 i ∧ CellB wr H (hdP z (A2 i) fun j => natF s (8 + j)) ∧ CellB wr S (secC s) ∧ CellB wr (S + 1) (headC 0 noRow) ∧ Below S w wr) (fun v10 _ => 24 - (intOf v10).toNat)
      case atStart => exact ⟨0, by omega, rfl, HX.out, CC.out, RR.out, BB.out⟩
      case round =>
        obtain ⟨i, hi2, rfl, hh, hc, hr, hb⟩ := hrel
        have HH := Lib.hid hh; have C2 := Lib.hid hc; have R2 := Lib.hid hr; have B2 := Lib.hid hb
        clear hh hc hr hb HX CC RR BB
        by_cases hlt : i < 24
        · have f1 : (i : Int) < 24 := by omega
          have f2 : (0 : Int) ≤ i := by omega
          have f3 : IntKind.i64.wrap ((i : Int) + 1) = ((i + 1 : Nat) : Int) := by rw [IntWalk.i64_in _ (by omega)]; omega
          obtain ⟨p8, h8⟩ : ∃ p8, 72 + i = p8 := ⟨_, rfl⟩
          have f4 : IntKind.i64.wrap (72 + (i : Int)) = (p8 : Int) := by rw [IntWalk.i64_in _ (by omega)]; omega
          have f6 : (p8 : Int) < 128 := by omega
          have HLT := Lib.hid hlt
          have H8 := Lib.hid h8
          have NX := Lib.hid (N2.out i hlt)
          have cs8 := C2.out.cell (SB.out p8 (by omega))
          clear h8 N2
          go_wp2_with (first
            | (refine wpList_byte_put rfl _ _ rfl rfl H (65 + i) rfl (natF s p8 : Nat) rfl _ HH.out (by rw [PL.out]; have := HLT.out; omega) ?_; intro w3 hx hb hs
               have hx2 : CellB w3 H (hdP z (A2 (i + 1)) fun j => natF s (8 + j)) := by
                 rw [← NX.out]
                 have e1 := H8.out
                 rw [show 8 + (64 + i) = p8 by omega]; exact hx
               have H3 := Lib.hid hx2; have C3 := Lib.hid (C2.out.but hb (by have := S4.out; omega)); have R3 := Lib.hid (R2.out.but hb (by have := S4.out; omega)); have B3 := Lib.hid (B2.out.trans (hb.below (by have := S4.out; omega) (HS.out ▸ B2.out.size)))
               clear hx hx2 hb hs cs8))
          go_roundw
          case rel => exact ⟨i + 1, HLT.out, by go_num, H3.out, C3.out, R3.out, B3.out⟩
          case measure => have := HLT.out; simp [intOf]; omega
        · obtain rfl : i = 24 := by omega
          have f1 : ¬ ((24 : Nat) : Int) < 24 := by omega
          have hh := HH.out
          rw [E2.out] at hh
          have H3 := Lib.hid hh
          clear hh HH N2
          go_wp2_with (first
            | (refine wpList_head_load rfl _ rfl H rfl z P H3.out.row ?_)
            | (go_at_call 6; refine (HN.out wr).mono ?_; rintro e w6 ⟨rfl, hb⟩
               have R6 := Lib.hid (R2.out.below hb); have C6 := Lib.hid (C2.out.below hb); have H6 := Lib.hid (H3.out.below hb); have B6 := Lib.hid (B2.out.trans (hb.mono (HS.out ▸ B2.out.size)))
               clear hb H3 R2 C2 B2 HN)
            | (refine wpList_cell_alloc rfl rfl w6.heap.size rfl ?_; intro w7 hx hb hs
               have R7 := Lib.hid (R6.out.below hb); have C7 := Lib.hid (C6.out.below hb); have H7 := Lib.hid (H6.out.below hb); have M7 := Lib.hid hx; have B7 := Lib.hid (B6.out.trans (hb.mono (HS.out ▸ B6.out.size))); have L7 := Lib.hid (show S + 1 < w6.heap.size ∧ H < w6.heap.size from ⟨R6.out.lt, H6.out.lt⟩)
               clear hx hb hs R6 C6 H6 B6)
            | (refine wpList_cell_store rfl _ _ rfl rfl w6.heap.size rfl noSec rfl noSec M7.out ?_; intro w8 hx hb hs
               have M8 := Lib.hid hx; have R8 := Lib.hid (R7.out.but hb (by have := L7.out; omega)); have C8 := Lib.hid (C7.out.but hb (by have := L7.out; omega)); have H8 := Lib.hid (H7.out.but hb (by have := L7.out; omega)); have B8 := Lib.hid (B7.out.trans (hb.below (by have := L7.out; omega) (HS.out ▸ B7.out.size)))
               clear hx hb hs R7 C7 H7 M7 B7)
            | (refine wpList_head_build0 rfl rfl ?_)
            | (refine wpList_head_store rfl _ _ rfl rfl (S + 1) rfl 0 noRow rfl 0 noRow R8.out ?_; intro w10 hx hb hs
               have R10 := Lib.hid hx; have B10 := Lib.hid (B8.out.trans (hb.below (by omega) (HS.out ▸ B8.out.size)))
               clear hx hb hs R8 B8))
          exact bodyPost_ret (results_head_tmp1 rfl _ _ (S + 1) 0 noRow rfl R10.out) rfl ⟨rfl, B10.out⟩
set_option maxRecDepth 100000 in
set_option maxHeartbeats 4000000 in
theorem refTakeHead_ok (kp : Option Addr) (n kc : Nat) (g : Nat → Nat) (hn : n ≤ 80000) (s : List Int) (hsec : IsSec s) (hz : ¬ countL s < 0) (w : World) (hk : KeyAt w kp n kc g) :
    Calls Tryd.prog 8 #[.slice kp n kc, secVal s] w fun e w' => e = .returned (hdAns (tauK n g) s) ∧ Below w.heap.size w w' := by
  have RT := Lib.hid (fun (W : World) B (h : CellB W B (secC s)) => refTake_ok (some ⟨B, 0, none⟩) 128 128 (natF s) (fun i _ => natF_lt hsec.2 i) 8 (.inr (.inr (.inr rfl))) (by decide) W (cell_bytes_at h))
  have CE := Lib.hid (show IntKind.i64.wrap (valN 8 (natF s) : Nat) = countL s by unfold countL; rfl)
  have SB := Lib.hid (fun j (h : j < 128) => sec_byte s h)
  have Z1 := Lib.hid (A1_zero (countL s) fun j => natF s (8 + j)); have N1 := Lib.hid (fun i (h : i < 32) => A1_next (countL s) (fun j => natF s (8 + j)) h)
  have E1 := Lib.hid (A1_all (countL s) fun j => natF s (8 + j)); have N2 := Lib.hid (fun i (h : i < 24) => A2_next (countL s) (fun j => natF s (8 + j)) h); have E2 := Lib.hid (A2_all (countL s) s)
  have PL := Lib.hid (fun A => hdP_len (countL s) A fun j => natF s (8 + j))
  have HN := Lib.hid (fun (W : World) (h : Below w.heap.size w W) => refHeadCell_ok kp n kc g hn (countL s) (takeP s) (takeP_row hsec.2) hz W (hk.below h))
  have TS := Lib.hid (hdL_sec (τ := tauK n g) (fun t => tauK_sum n g t) (z := countL s) (takeP_row hsec.2))
  have SS := Lib.hid hsec
  have AY := Lib.hid (fun h : hdL (tauK n g) (countL s) (takeP s) = s => hdAns_yes (τ := tauK n g) (s := s) (by unfold isHd; exact ⟨by omega, h⟩))
  have AN := Lib.hid (fun h : ¬ hdL (tauK n g) (countL s) (takeP s) = s => hdAns_no (τ := tauK n g) (s := s) (by unfold isHd; exact fun hh => h hh.2))
  generalize hdL (tauK n g) (countL s) (takeP s) = t at *
  clear hsec hz hk hn
  generalize countL s = z at *
  generalize takeP s = P at *
  generalize hS : w.heap.size = S at *
  have HS := Lib.hid hS
  clear hS
  go_enter Tryd.func8, Tryd.ntmps8
  go_wp2_with (first
    | (refine wpList_cell_boxed rfl _ rfl s rfl S HS.out ?_; intro w1 hx hb hs
       have C1 := Lib.hid hx; have B1 := Lib.hid hb; have S1 := Lib.hid hs; clear hx hb hs)
    | (refine wpList_head_alloc rfl rfl (S + 1) S1.out ?_; intro w2 hx hb hs
       have C2 := Lib.hid (C1.out.belowM hb (by omega)); have R2 := Lib.hid hx; have B2 := Lib.hid (B1.out.trans (hb.mono (by omega))); have S2 := Lib.hid (show S + 2 ≤ w2.heap.size by omega)
       clear hx hb hs C1 B1 S1)
    | (refine wpList_arr_slice rfl 30 5 128 secUnd rfl _ rfl S 0 rfl ?_)
    | (go_at_call 18; refine (RT.out w2 S C2.out).mono ?_; rintro e w3 ⟨rfl, rfl⟩
       rw [CE.out]
       have C3 := C2; have R3 := R2; have B3 := B2; have S3 := S2
       clear C2 R2 B2 S2 RT)
    | (refine wpList_head_build1 rfl _ rfl z rfl ?_)
    | (refine wpList_head_alloc rfl rfl w2.heap.size rfl ?_; intro w4 hx hb hs
       have C4 := Lib.hid (C3.out.below hb); have R4 := Lib.hid (R3.out.below hb); have H4 := Lib.hid hx; have B4 := Lib.hid (B3.out.trans (hb.mono (HS.out ▸ B3.out.size))); have S4 := Lib.hid (show S + 2 ≤ w2.heap.size ∧ w2.heap.size < w4.heap.size from ⟨S3.out, by omega⟩)
       clear hx hb hs C3 R3 B3 S3
       generalize w2.heap.size = H at *)
    | (refine wpList_head_store rfl _ _ rfl rfl H rfl z noRow rfl 0 noRow H4.out ?_; intro w5 hx hb hs
       rw [Z1.out] at hx
       have H5 := Lib.hid hx; have C5 := Lib.hid (C4.out.but hb (by have := S4.out; omega)); have R5 := Lib.hid (R4.out.but hb (by have := S4.out; omega)); have B5 := Lib.hid (B4.out.trans (hb.below (by have := S4.out; omega) (HS.out ▸ B4.out.size)))
       clear hx hb hs H4 C4 R4 B4))
  go_loopw [9] (fun v9 wr => ∃ i : Nat, i ≤ 32 ∧ v9 = .int .i64 i ∧ CellB wr H (hdP z (A1 i) fun j => natF s (8 + j)) ∧ CellB wr S (secC s) ∧ CellB wr (S + 1) (headC 0 noRow) ∧ Below S w wr) (fun v9 _ => 32 - (intOf v9).toNat)
  case atStart => exact ⟨0, by omega, rfl, H5.out, C5.out, R5.out, B5.out⟩
  case round =>
    obtain ⟨i, hi2, rfl, hh, hc, hr, hb⟩ := hrel
    have HH := Lib.hid hh; have CC := Lib.hid hc; have RR := Lib.hid hr; have BB := Lib.hid hb
    clear hh hc hr hb H5 C5 R5 B5
    by_cases hlt : i < 32
    · have f1 : (i : Int) < 32 := by omega
      have f2 : (0 : Int) ≤ i := by omega
      have f3 : IntKind.i64.wrap ((i : Int) + 1) = ((i + 1 : Nat) : Int) := by rw [IntWalk.i64_in _ (by omega)]; omega
      obtain ⟨p8, h8⟩ : ∃ p8, 8 + i = p8 := ⟨_, rfl⟩
      obtain ⟨p40, h40⟩ : ∃ p40, 40 + i = p40 := ⟨_, rfl⟩
      have f4 : IntKind.i64.wrap (8 + (i : Int)) = (p8 : Int) := by rw [IntWalk.i64_in _ (by omega)]; omega
      have f5 : IntKind.i64.wrap (40 + (i : Int)) = (p40 : Int) := by rw [IntWalk.i64_in _ (by omega)]; omega
      have f6 : (p8 : Int) < 128 := by omega
      have f7 : (p40 : Int) < 128 := by omega
      have HLT := Lib.hid hlt
      have H8 := Lib.hid h8; have H40 := Lib.hid h40
      have NX := Lib.hid (N1.out i hlt)
      have cs8 := CC.out.cell (SB.out p8 (by omega))
      have CS40 := Lib.hid (SB.out p40 (by omega))
      clear h8 h40 N1 N2
      go_wp2_with (first
        | (refine wpList_roots_addr rfl _ _ rfl H 1 0 rfl rfl (by decide) ?_)
        | (refine wpList_roots_addr rfl _ _ rfl H 1 1 rfl rfl (by decide) ?_)
        | (refine wpList_byte_put rfl _ _ rfl rfl H (1 + i) rfl (natF s p8 : Nat) rfl _ HH.out (by rw [PL.out]; have := HLT.out; omega) ?_; intro w2 hx hb hs
           have H2 := Lib.hid hx; have C2 := Lib.hid (CC.out.but hb (by have := S4.out; omega)); have R2 := Lib.hid (RR.out.but hb (by have := S4.out; omega)); have B2 := Lib.hid (BB.out.trans (hb.below (by have := S4.out; omega) (HS.out ▸ BB.out.size)))
           have cs40 := C2.out.cell CS40.out
           clear hx hb hs cs8)
        | (refine wpList_byte_put rfl _ _ rfl rfl H (33 + i) rfl (natF s p40 : Nat) rfl _ H2.out (by rw [List.length_set, PL.out]; have := HLT.out; omega) ?_; intro w3 hx hb hs
           have hx2 : CellB w3 H (hdP z (A1 (i + 1)) fun j => natF s (8 + j)) := by
             rw [← NX.out]
             have e1 := H8.out; have e2 := H40.out
             subst e1; rw [show 8 + (32 + i) = p40 by omega]; exact hx
           have H3 := Lib.hid hx2; have C3 := Lib.hid (C2.out.but hb (by have := S4.out; omega)); have R3 := Lib.hid (R2.out.but hb (by have := S4.out; omega)); have B3 := Lib.hid (B2.out.trans (hb.below (by have := S4.out; omega) (HS.out ▸ B2.out.size)))
           clear hx hx2 hb hs cs40 H2 C2 R2 B2))
      go_roundw
      case rel => exact ⟨i + 1, HLT.out, by go_num, H3.out, C3.out, R3.out, B3.out⟩
      case measure => have := HLT.out; simp [intOf]; omega
    · obtain rfl : i = 32 := by omega
      have f1 : ¬ ((32 : Nat) : Int) < 32 := by omega
      have hh := HH.out
      rw [E1.out] at hh
      have HX := Lib.hid hh
      clear hh HH N1
      go_wp2
      go_loopw [10] (fun v10 wr => ∃ i : Nat, i ≤ 24 ∧ v10 = .int .i64 i ∧ CellB wr H (hdP z (A2 i) fun j => natF s (8 + j)) ∧ CellB wr S (secC s) ∧ CellB wr (S + 1) (headC 0 noRow) ∧ Below S w wr) (fun v10 _ => 24 - (intOf v10).toNat)
      case atStart => exact ⟨0, by omega, rfl, HX.out, CC.out, RR.out, BB.out⟩
      case round =>
        obtain ⟨i, hi2, rfl, hh, hc, hr, hb⟩ := hrel
        have HH := Lib.hid hh; have C2 := Lib.hid hc; have R2 := Lib.hid hr; have B2 := Lib.hid hb
        clear hh hc hr hb HX CC RR BB
        by_cases hlt : i < 24
        · have f1 : (i : Int) < 24 := by omega
          have f2 : (0 : Int) ≤ i := by omega
          have f3 : IntKind.i64.wrap ((i : Int) + 1) = ((i + 1 : Nat) : Int) := by rw [IntWalk.i64_in _ (by omega)]; omega
          obtain ⟨p8, h8⟩ : ∃ p8, 72 + i = p8 := ⟨_, rfl⟩
          have f4 : IntKind.i64.wrap (72 + (i : Int)) = (p8 : Int) := by rw [IntWalk.i64_in _ (by omega)]; omega
          have f6 : (p8 : Int) < 128 := by omega
          have HLT := Lib.hid hlt
          have H8 := Lib.hid h8
          have NX := Lib.hid (N2.out i hlt)
          have cs8 := C2.out.cell (SB.out p8 (by omega))
          clear h8 N2
          go_wp2_with (first
            | (refine wpList_byte_put rfl _ _ rfl rfl H (65 + i) rfl (natF s p8 : Nat) rfl _ HH.out (by rw [PL.out]; have := HLT.out; omega) ?_; intro w3 hx hb hs
               have hx2 : CellB w3 H (hdP z (A2 (i + 1)) fun j => natF s (8 + j)) := by
                 rw [← NX.out]
                 have e1 := H8.out
                 rw [show 8 + (64 + i) = p8 by omega]; exact hx
               have H3 := Lib.hid hx2; have C3 := Lib.hid (C2.out.but hb (by have := S4.out; omega)); have R3 := Lib.hid (R2.out.but hb (by have := S4.out; omega)); have B3 := Lib.hid (B2.out.trans (hb.below (by have := S4.out; omega) (HS.out ▸ B2.out.size)))
               clear hx hx2 hb hs cs8))
          go_roundw
          case rel => exact ⟨i + 1, HLT.out, by go_num, H3.out, C3.out, R3.out, B3.out⟩
          case measure => have := HLT.out; simp [intOf]; omega
        · obtain rfl : i = 24 := by omega
          have f1 : ¬ ((24 : Nat) : Int) < 24 := by omega
          have hh := HH.out
          rw [E2.out] at hh
          have H3 := Lib.hid hh
          clear hh HH N2
          by_cases hq : t = s
          · have NE := Lib.hid (show (!sameS t s) = false by rw [hq, sameS_self]; rfl)
            have HQ := Lib.hid hq
            clear hq
            go_wp2_with (first
              | (refine wpList_head_load rfl _ rfl H rfl z P H3.out.row ?_)
              | (go_at_call 6; refine (HN.out wr (HS.out.symm ▸ B2.out)).mono ?_; rintro e w6 ⟨rfl, hb⟩
                 have R6 := Lib.hid (R2.out.below hb); have C6 := Lib.hid (C2.out.below hb); have H6 := Lib.hid (H3.out.below hb); have B6 := Lib.hid (B2.out.trans (hb.mono (HS.out ▸ B2.out.size)))
                 clear hb H3 R2 C2 B2 HN)
              | (refine wpList_cell_alloc rfl rfl w6.heap.size rfl ?_; intro w7 hx hb hs
                 have R7 := Lib.hid (R6.out.below hb); have C7 := Lib.hid (C6.out.below hb); have H7 := Lib.hid (H6.out.below hb); have M7 := Lib.hid hx; have B7 := Lib.hid (B6.out.trans (hb.mono (HS.out ▸ B6.out.size))); have L7 := Lib.hid (show S + 1 < w6.heap.size ∧ H < w6.heap.size from ⟨R6.out.lt, H6.out.lt⟩)
                 clear hx hb hs R6 C6 H6 B6)
              | (refine wpList_cell_store rfl _ _ rfl rfl w6.heap.size rfl t rfl noSec M7.out ?_; intro w8 hx hb hs
                 have M8 := Lib.hid hx; have R8 := Lib.hid (R7.out.but hb (by have := L7.out; omega)); have C8 := Lib.hid (C7.out.but hb (by have := L7.out; omega)); have H8 := Lib.hid (H7.out.but hb (by have := L7.out; omega)); have B8 := Lib.hid (B7.out.trans (hb.below (by have := L7.out; omega) (HS.out ▸ B7.out.size)))
                 clear hx hb hs R7 C7 H7 M7 B7)
              | (refine wpList_cell_load rfl _ rfl w6.heap.size 0 rfl t M8.out.row ?_)
              | (refine wpList_cell_load rfl _ rfl S 0 rfl s C8.out.row ?_)
              | (refine wpList_cell_neq rfl _ _ rfl t s rfl rfl false NE.out ?_)
              | (refine wpList_head_load rfl _ rfl H rfl z P H8.out.row ?_)
              | (refine wpList_head_build0 rfl rfl ?_)
              | (refine wpList_head_store rfl _ _ rfl rfl (S + 1) rfl z P rfl 0 noRow R8.out ?_; intro w10 hx hb hs
                 have R10 := Lib.hid hx; have B10 := Lib.hid (B8.out.trans (hb.below (by omega) (HS.out ▸ B8.out.size)))
                 clear hx hb hs R8 B8))
            exact bodyPost_ret (results_head_tmp1 rfl _ _ (S + 1) z P rfl R10.out) rfl ⟨by rw [AY.out HQ.out]; rfl, B10.out⟩
          · have NE := Lib.hid (show (!sameS t s) = true by rw [sameS_not TS.out SS.out hq]; rfl)
            have HQ := Lib.hid hq
            clear hq
            go_wp2_with (first
              | (refine wpList_head_load rfl _ rfl H rfl z P H3.out.row ?_)
              | (go_at_call 6; refine (HN.out wr (HS.out.symm ▸ B2.out)).mono ?_; rintro e w6 ⟨rfl, hb⟩
                 have R6 := Lib.hid (R2.out.below hb); have C6 := Lib.hid (C2.out.below hb); have H6 := Lib.hid (H3.out.below hb); have B6 := Lib.hid (B2.out.trans (hb.mono (HS.out ▸ B2.out.size)))
                 clear hb H3 R2 C2 B2 HN)
              | (refine wpList_cell_alloc rfl rfl w6.heap.size rfl ?_; intro w7 hx hb hs
                 have R7 := Lib.hid (R6.out.below hb); have C7 := Lib.hid (C6.out.below hb); have H7 := Lib.hid (H6.out.below hb); have M7 := Lib.hid hx; have B7 := Lib.hid (B6.out.trans (hb.mono (HS.out ▸ B6.out.size))); have L7 := Lib.hid (show S + 1 < w6.heap.size ∧ H < w6.heap.size from ⟨R6.out.lt, H6.out.lt⟩)
                 clear hx hb hs R6 C6 H6 B6)
              | (refine wpList_cell_store rfl _ _ rfl rfl w6.heap.size rfl t rfl noSec M7.out ?_; intro w8 hx hb hs
                 have M8 := Lib.hid hx; have R8 := Lib.hid (R7.out.but hb (by have := L7.out; omega)); have C8 := Lib.hid (C7.out.but hb (by have := L7.out; omega)); have H8 := Lib.hid (H7.out.but hb (by have := L7.out; omega)); have B8 := Lib.hid (B7.out.trans (hb.below (by have := L7.out; omega) (HS.out ▸ B7.out.size)))
                 clear hx hb hs R7 C7 H7 M7 B7)
              | (refine wpList_cell_load rfl _ rfl w6.heap.size 0 rfl t M8.out.row ?_)
              | (refine wpList_cell_load rfl _ rfl S 0 rfl s C8.out.row ?_)
              | (refine wpList_cell_neq rfl _ _ rfl t s rfl rfl true NE.out ?_)
              | (refine wpList_head_load rfl _ rfl H rfl z P H8.out.row ?_)
              | (refine wpList_head_build0 rfl rfl ?_)
              | (refine wpList_head_store rfl _ _ rfl rfl (S + 1) rfl 0 noRow rfl 0 noRow R8.out ?_; intro w10 hx hb hs
                 have R10 := Lib.hid hx; have B10 := Lib.hid (B8.out.trans (hb.below (by omega) (HS.out ▸ B8.out.size)))
                 clear hx hb hs R8 B8))
            exact bodyPost_ret (results_head_tmp1 rfl _ _ (S + 1) 0 noRow rfl R10.out) rfl ⟨by rw [AN.out HQ.out]; rfl, B10.out⟩
theorem refTakeHead_any (kp : Option Addr) (n kc : Nat) (g : Nat → Nat) (hn : n ≤ 80000) (s : List Int) (hsec : IsSec s) (w : World) (hk : KeyAt w kp n kc g) :
    Calls Tryd.prog 8 #[.slice kp n kc, secVal s] w fun e w' => e = .returned (hdAns (tauK n g) s) ∧ Below w.heap.size w w' := by
  by_cases hz : countL s < 0
  · rw [hdAns_no (by unfold isHd; exact fun h => by have := h.1; omega)]
    exact refTakeHead_neg kp n kc g hn s hsec hz w hk
  · exact refTakeHead_ok kp n kc g hn s hsec hz w hk
end Go.Proofs.YtghdeedglekphaaDoor

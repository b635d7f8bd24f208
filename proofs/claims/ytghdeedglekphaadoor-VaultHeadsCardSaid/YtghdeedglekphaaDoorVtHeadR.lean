/- The contract of citadelref12's HeadCell. Conditions: the key has no more than 80,000 bytes; the head's rows are bytes. -/
import Derived.Test.YtghdeedglekphaaDoorVtPut
namespace Go.Proofs.YtghdeedglekphaaDoor
open Go.ChangeShapes Go.WideShapes Go.ChangeAt Go.RowKit
set_option linter.unusedVariables false
theorem RefN_ok (z : Int) (w : World) : Calls Tryd.prog 14 #[.int .i64 8, .int .i64 z] w fun e w' => ∃ p c, e = .returned (.tuple #[.slice p 8 c, .int .i64 0]) ∧ OwnL 5 1 byteC w' w.heap.size w'.heap.size (.slice p 8 c) (numL 8 z) ∧ Below w.heap.size w w' := by
  refine (refNumber_own 8 z (.inr (.inr (.inr rfl))) (.inl rfl) w).mono ?_
  rintro e w' ⟨p, c, rfl, ho, hb⟩
  exact ⟨p, c, rfl, own_list ho, hb⟩
attribute [local irreducible] nought tauK sumVal sumC secVal secC headV headC bytC rootsV rootK restK txtK hdT hdL numL noSec noRow fTo
set_option maxRecDepth 100000 in
set_option maxHeartbeats 4000000 in
theorem refHeadCell_neg (kp : Option Addr) (n kc : Nat) (z : Int) (P : List Int) (hz : z < 0) (w : World) :
    Calls Tryd.prog 6 #[.slice kp n kc, headV z P] w fun e w' => e = .returned (.tuple #[secVal noSec, .bool false]) ∧ Below w.heap.size w w' := by
  have d1 : decide (z < 0) = true := decide_eq_true hz
  have HC := Lib.hid (headC_count z P)
  clear hz
  generalize hS : w.heap.size = S at *
  have HS := Lib.hid hS
  clear hS
  go_enter Tryd.func6, Tryd.ntmps6
  go_wp2_with (first
    | (refine wpList_head_box rfl _ rfl z P rfl S HS.out ?_; intro w1 hx hb hs
       have H1 := Lib.hid hx; have B1 := Lib.hid hb; have S1 := Lib.hid hs; clear hx hb hs)
    | (refine wpList_cell_alloc rfl rfl (S + 1) S1.out ?_; intro w2 hx hb hs
       have H2 := Lib.hid (H1.out.belowM hb (by omega)); have R2 := Lib.hid hx; have B2 := Lib.hid (B1.out.trans (hb.mono (by omega))); have k2 := H2.out.cell HC.out
       clear hx hb hs H1 B1 S1)
    | (refine wpList_cell_build0 rfl rfl ?_)
    | (refine wpList_cell_store rfl _ _ rfl rfl (S + 1) rfl noSec rfl noSec R2.out ?_; intro w3 hx hb hs
       have R3 := Lib.hid hx; have B3 := Lib.hid (B2.out.trans (hb.below (by omega) (HS.out ▸ B2.out.size)))
       clear hx hb hs R2 B2 k2))
  exact bodyPost_ret (results_cell_tmp1 rfl _ _ (S + 1) noSec rfl R3.out) rfl ⟨rfl, B3.out⟩
set_option maxRecDepth 100000 in
set_option maxHeartbeats 4000000 in
theorem refHeadCell_ok (kp : Option Addr) (n kc : Nat) (g : Nat → Nat) (hn : n ≤ 80000) (z : Int) (P : List Int) (hP : IsRow88 P) (hz : ¬ z < 0) (w : World) (hk : KeyAt w kp n kc g) :
    Calls Tryd.prog 6 #[.slice kp n kc, headV z P] w fun e w' => e = .returned (.tuple #[secVal (hdL (tauK n g) z P), .bool true]) ∧ Below w.heap.size w w' := by
  have d1 : decide (z < 0) = false := decide_eq_false hz
  have HC := Lib.hid (headC_count z P)
  have HK := Lib.hid (fun (W : World) (hb : Below w.heap.size w W) => hk.below hb)
  have TG := Lib.hid (fun p c (W : World) h1 h2 => ref_tag (kp := kp) (n := n) (kc := kc) (g := g) hn (hdT_bytes (z := z) hP) (by rw [hdT_len hP]; decide) (p := p) (c := c) (w := W) h1 h2)
  have PN := Lib.hid (fun (W : World) => RefN_ok z W)
  have TZ := Lib.hid (txtK_zero z P); have TR := Lib.hid (txtK_root z P); have TE := Lib.hid (txtK_rest z hP); have TL := Lib.hid (txtK_len z P)
  have RS := Lib.hid (rootK_sum hP.2); have RA := Lib.hid (fun (W : World) B h => head_rest_at (w := W) (B := B) (z := z) hP.2 h)
  have RO := Lib.hid (fun (W : World) B k h hk => head_root_at (w := W) (B := B) (z := z) hP.2 h (k := k) hk)
  have RL := Lib.hid (restK_len P)
  have HL := Lib.hid (hdT_len (z := z) hP)
  have TS := Lib.hid (tauK_sum n g (hdT z P))
  have HE := Lib.hid (show hdT z P ++ tauK n g (hdT z P) = hdL (tauK n g) z P by unfold hdL; rfl)
  have SC := Lib.hid (hdL_sec (τ := tauK n g) (fun t => tauK_sum n g t) (z := z) hP)
  have CZ := Lib.hid (show secC noSec = bytC 128 (fTo 0 (natF (hdL (tauK n g) z P))) by rw [bytC_zero]; exact secC_zero)
  have CA := Lib.hid (show bytC 128 (fTo 128 (natF (hdL (tauK n g) z P))) = secC (hdL (tauK n g) z P) by rw [bytC_all]; unfold secC; rfl)
  have CP := Lib.hid (fun k (h : k < 128) => bytC_put (n := 128) (natF (hdL (tauK n g) z P)) h)
  have CL := Lib.hid (fun f => bytC_len 128 f)
  clear hz hn hP hk
  generalize hS : w.heap.size = S at *
  have HS := Lib.hid hS
  clear hS
  go_enter Tryd.func6, Tryd.ntmps6
  go_wp2_with (first
    | (refine wpList_head_box rfl _ rfl z P rfl S HS.out ?_; intro w1 hx hb hs
       have H1 := Lib.hid hx; have B1 := Lib.hid hb; have S1 := Lib.hid hs; clear hx hb hs)
    | (refine wpList_cell_alloc rfl rfl (S + 1) S1.out ?_; intro w2 hx hb hs
       have H2 := Lib.hid (H1.out.belowM hb (by omega)); have R2 := Lib.hid hx; have B2 := Lib.hid (B1.out.trans (hb.mono (by omega))); have S2 := Lib.hid hs; have k2 := H2.out.cell HC.out
       clear hx hb hs H1 B1 S1)
    | (go_at_call 14; refine (PN.out _).mono ?_; rintro e w3 ⟨p3, c3, rfl, ho, hb⟩
       have H3 := Lib.hid (H2.out.below hb); have R3 := Lib.hid (R2.out.below hb); have O3 := Lib.hid (show OwnL 5 1 byteC w3 (S + 2) w3.heap.size (.slice p3 8 c3) (txtK z P (32 * 0)) by rw [Nat.mul_zero, TZ.out]; exact ho.lower (by rw [S2.out]; exact Nat.le_refl _))
       have B3 := Lib.hid (B2.out.trans (hb.mono (by rw [S2.out]; omega))); have S3 := Lib.hid (show S + 2 ≤ w3.heap.size by have := hb.size; rw [S2.out] at this; exact this)
       clear ho hb H2 R2 B2 S2 k2 PN))
  go_loopw [6, 8] (fun v6 v8 wr => ∃ k : Nat, k ≤ 2 ∧ v8 = .int .i64 k ∧ OwnL 5 1 byteC wr (S + 2) wr.heap.size v6 (txtK z P (32 * k)) ∧ CellB wr S (headC z P) ∧ CellB wr (S + 1) (secC noSec) ∧ Below S w wr ∧ S + 2 ≤ wr.heap.size) (fun _ v8 _ => 2 - (intOf v8).toNat)
  case atStart => exact ⟨0, by omega, rfl, O3.out, H3.out, R3.out, B3.out, S3.out⟩
  case round =>
    obtain ⟨k, hk2, rfl, ho, hh, hr, hb, hs⟩ := hrel
    have OO := Lib.hid ho; have HH := Lib.hid hh; have RR := Lib.hid hr; have BB := Lib.hid hb; have SS := Lib.hid hs
    clear ho hh hr hb hs O3 H3 R3 B3 S3
    have TLK := Lib.hid (TL.out (32 * k))
    by_cases hlt : k < 2
    · have f1 : (k : Int) < 2 := by omega
      have f3 : IntKind.i64.wrap ((k : Int) + 1) = ((k + 1 : Nat) : Int) := by rw [IntWalk.i64_in _ (by omega)]; omega
      have HLT := Lib.hid hlt
      have RK := Lib.hid (RS.out k); have TRK := Lib.hid (TR.out k); have ROK := Lib.hid (RO.out _ _ k HH.out hlt)
      clear RO RS TR TL RA
      go_wp2_with (first
        | (refine wpList_roots_addr rfl _ _ rfl S 1 k rfl rfl HLT.out ?_)
        | (refine wpList_sum_row rfl _ rfl S (1 + 32 * k) rfl ?_)
        | (refine wpList_app elemByte rfl _ _ rfl (S + 2) wr.heap.size _ (txtK z P (32 * k)) (rootK P k) (some ⟨S, 1 + 32 * k, none⟩) 32 32 rfl rfl RK.out.1.symm OO.out ROK.out (by rw [TLK.out, RK.out.1]; have := HLT.out; omega) (by decide) SS.out ?_; intro v5 w5 ho hb
           rw [TRK.out] at ho
           have O5 := Lib.hid ho; have H5 := Lib.hid (HH.out.belowM hb (by omega)); have R5 := Lib.hid (RR.out.belowM hb (by omega)); have B5 := Lib.hid (BB.out.trans (hb.mono (by omega))); have S5 := Lib.hid (Nat.le_trans SS.out hb.size)
           clear ho hb))
      go_roundw
      case rel => exact ⟨k + 1, HLT.out, by go_num, O5.out, H5.out, R5.out, B5.out, S5.out⟩
      case measure => have := HLT.out; simp [intOf]; omega
    · obtain rfl : k = 2 := by omega
      have f1 : ¬ ((2 : Nat) : Int) < 2 := by omega
      obtain ⟨p6, c6, rfl, hc6, hm6, hr6, hl6⟩ := OO.out.rows elemByte.len
      have RA6 := Lib.hid (RA.out _ _ HH.out)
      clear TR RS hc6 hm6 hr6 hl6 RO
      go_wp2_with (first
        | (refine wpList_arr_slice rfl 26 5 24 Tryd.underlying26 rfl _ rfl S 65 rfl ?_)
        | (refine wpList_app elemByte rfl _ _ rfl (S + 2) wr.heap.size _ (txtK z P (32 * 2)) (restK P) (some ⟨S, 65, none⟩) 24 24 rfl rfl RL.out.symm OO.out RA6.out (by rw [TLK.out, RL.out]; decide) (by decide) SS.out ?_; intro v5 w5 ho hb
           rw [show 32 * 2 = 64 from rfl, TE.out] at ho
           obtain ⟨p7, c7, rfl, hc7, _, hr7, _⟩ := ho.rows elemByte.len
           have O5 := Lib.hid ho; have C5 := Lib.hid hc7; have Q5 := Lib.hid hr7; have R5 := Lib.hid (RR.out.belowM hb (by omega)); have B5 := Lib.hid (BB.out.trans (hb.mono (by omega))); have S5 := Lib.hid (Nat.le_trans SS.out hb.size)
           clear ho hb hc7 hr7 OO RR BB SS HH RA6)
        | (go_at_call 15; refine (TG.out p7 c7 w5 (HK.out _ (HS.out.symm ▸ B5.out)) Q5.out).mono ?_; rintro e w9 ⟨rfl, hb⟩
           have O9 := Lib.hid (O5.out.below (Nat.le_refl _) hb); have R9 := Lib.hid (R5.out.below hb); have B9 := Lib.hid (B5.out.trans (hb.mono (HS.out ▸ B5.out.size))); have S9 := Lib.hid (Nat.le_trans S5.out hb.size); have Z9 := Lib.hid hb.size
           clear hb O5 R5 B5 S5 Q5 TG)
        | (refine wpList_sum_alloc rfl rfl w9.heap.size rfl ?_; intro w10 hD hb hs
           have D10 := Lib.hid hD; have R10 := Lib.hid (R9.out.below hb); have O10 := Lib.hid (((O9.out.raise Z9.out).below (Nat.le_refl _) hb)); have B10 := Lib.hid (B9.out.trans (hb.mono (HS.out ▸ B9.out.size))); have Z10 := Lib.hid hs; clear hD hb hs R9 O9 B9)
        | (refine wpList_sum_store rfl _ _ rfl rfl w9.heap.size 0 rfl (tauK n g (hdT z P)) rfl [nought] D10.out (by decide) ?_; intro w11 hD hb hs
           have D11 := Lib.hid (show SumsB w11 w9.heap.size [tauK n g (hdT z P)] from hD)
           have bel := hb.below (Nat.le_refl _) (by rw [Z10.out]; omega)
           have R11 := Lib.hid (R10.out.but hb (by have := S9.out; omega)); have O11 := Lib.hid (O10.out.same fun B _ hB => bel.block B hB); have B11 := Lib.hid (B10.out.trans (bel.mono (by have := S9.out; omega))); have Z11 := Lib.hid bel.size; clear hD hb hs bel D10 R10 O10 B10)
        | (refine wpList_sum_row rfl _ rfl w9.heap.size 0 rfl ?_)
        | (refine wpList_app elemByte rfl _ _ rfl (S + 2) w9.heap.size _ (hdT z P) (tauK n g (hdT z P)) (some ⟨w9.heap.size, 0, none⟩) 32 32 rfl rfl TS.out.1.symm O11.out (sum_rows_at TS.out D11.out) (by rw [HL.out, TS.out.1]; decide) (by decide) (by have h1 := S9.out; have h2 := Z11.out; have h3 := Z10.out; omega) ?_; intro v12 w12 ho hb
           rw [HE.out] at ho
           obtain ⟨p12, c12, rfl, hc12, _, hr12, hl12⟩ := ho.rows elemByte.len
           have hq12 := rows_bytes hr12 SC.out.2
           rw [SC.out.1] at hq12 hc12 ⊢
           have Q12 := Lib.hid hq12; have L12 := Lib.hid (fun B o h => (hl12 B o h).2); have R12 := Lib.hid (R11.out.belowM hb (by omega)); have B12 := Lib.hid (B11.out.trans (hb.mono (by omega))); have S12 := Lib.hid (show S + 2 ≤ w12.heap.size by have h1 := S9.out; have h2 := Z11.out; have h3 := Z10.out; have h4 := hb.size; omega)
           clear ho hb hr12 hq12 hl12 O11 D11 R11 B11 Z11 Z10 Z9 S9)
        | (refine wpList_cell_alloc rfl rfl w12.heap.size rfl ?_; intro w13 hx hb hs
           have Q13 := Lib.hid (Q12.out.below hb); have R13 := Lib.hid (R12.out.below hb); have B13 := Lib.hid (B12.out.trans (hb.mono (HS.out ▸ B12.out.size))); have Y13 := Lib.hid hx; have S13 := Lib.hid (show S + 2 ≤ w12.heap.size ∧ w12.heap.size < w13.heap.size from ⟨S12.out, by omega⟩)
           clear hx hb hs Q12 R12 B12 S12
           generalize w12.heap.size = Y at *))
      rcases Q13.out with h0 | ⟨E, o, rfl, hE, hc⟩
      · exact absurd h0 (by decide)
      have EC := Lib.hid (show ∀ i, i < 128 → w13.cell? ⟨E, o + i, none⟩ = some (.int .u8 (natF (hdL (tauK n g) z P) i : Nat)) from hc)
      have QN := Lib.hid (show E < Y from (L12.out E o rfl).1)
      clear L12 Q13 hE hc
      have TSC := Lib.hid SC.out
      clear SC TS TE TL TZ HE TLK HC HL RL f1
      generalize hEQ : hdL (tauK n g) z P = s at *
      have EQS := Lib.hid hEQ
      clear hEQ
      go_wp2
      go_loopw [11] (fun v11 wr2 => ∃ k : Nat, k ≤ 128 ∧ v11 = .int .i64 k ∧ CellB wr2 Y (bytC 128 (fTo k (natF s))) ∧ (∀ i, i < 128 → wr2.cell? ⟨E, o + i, none⟩ = some (.int .u8 (natF s i : Nat))) ∧ CellB wr2 (S + 1) (secC noSec) ∧ Below S w wr2) (fun v11 _ => 128 - (intOf v11).toNat)
      case atStart => exact ⟨0, by omega, rfl, by rw [← CZ.out]; exact Y13.out, EC.out, R13.out, B13.out⟩
      case round =>
        obtain ⟨k, hk2, rfl, hy, he, hr, hb⟩ := hrel
        have YY := Lib.hid hy; have EE := Lib.hid he; have RR := Lib.hid hr; have BB := Lib.hid hb
        clear hy he hr hb Y13 EC R13 B13
        by_cases hlt : k < 128
        · have f1 : (k : Int) < 128 := by omega
          have f2 : (0 : Int) ≤ k := by omega
          have f3 : IntKind.i64.wrap ((k : Int) + 1) = ((k + 1 : Nat) : Int) := by rw [IntWalk.i64_in _ (by omega)]; omega
          have HLT := Lib.hid hlt
          have cs := EE.out k hlt
          have CPK := Lib.hid (CP.out k hlt)
          go_wp2_with (first
            | (refine wpList_byte_put rfl _ _ rfl rfl Y k rfl (natF s k : Nat) rfl _ YY.out (by rw [CL.out]; exact HLT.out) ?_; intro w2 hx hb hs
               rw [CPK.out] at hx
               have Y2 := Lib.hid hx; have R2 := Lib.hid (RR.out.but hb (by have := S13.out; omega)); have B2 := Lib.hid (BB.out.trans (hb.below (by have := S13.out; omega) (HS.out ▸ BB.out.size)))
               have E2 := Lib.hid (show ∀ i, i < 128 → w2.cell? ⟨E, o + i, none⟩ = some (.int .u8 (natF s i : Nat)) from fun i hi => by
                 rw [World.cell?_of_block (w := wr) (w' := w2) (a := ⟨E, o + i, none⟩) (hb.same E (block_lt_of_cell (EE.out i hi)) (by have := QN.out; omega))]; exact EE.out i hi)
               clear hx hb hs cs))
          go_roundw
          case rel => exact ⟨k + 1, HLT.out, by go_num, Y2.out, E2.out, R2.out, B2.out⟩
          case measure => have := HLT.out; simp [intOf]; omega
        · obtain rfl : k = 128 := by omega
          have f1 : ¬ ((128 : Nat) : Int) < 128 := by omega
          have yy := YY.out
          rw [CA.out] at yy
          have Y2 := Lib.hid yy
          clear yy YY EE
          go_wp2_with (first
            | (refine wpList_cell_load rfl _ rfl Y 0 rfl s Y2.out.row ?_)
            | (refine wpList_cell_store rfl _ _ rfl rfl (S + 1) rfl s rfl noSec RR.out ?_; intro w14 hx hb hs
               have R14 := Lib.hid hx; have B14 := Lib.hid (BB.out.trans (hb.below (by omega) (HS.out ▸ BB.out.size)))
               clear hx hb hs RR BB))
          exact bodyPost_ret (results_cell_tmp1 rfl _ _ (S + 1) s rfl R14.out) rfl ⟨by rw [EQS.out]; rfl, B14.out⟩
end Go.Proofs.YtghdeedglekphaaDoor

/- A case of PlatterTouched (too many bytes; not kept): who tampers changes just the first bytes, both those that are sure and those that are read, for every sector's bytes. No condition. -/
import Derived.Test.YtbejfpdkfpgipaaPlTouchH
namespace Go.Proofs.Ytbejfpdkfpgipaa.platterTouched
open Go.ChangeShapes Go.WideShapes Go.ChangeAt Go.RowKit
set_option linter.unusedVariables false
attribute [local irreducible] mk put cellF dT dU
set_option maxRecDepth 100000 in
set_option maxHeartbeats 8000000 in
theorem touched_big_lost (q0 : Option Addr) (n0 c0 : Nat) (g0 : Nat → Nat) (q1 : Option Addr) (n1 c1 : Nat) (g1 : Nat → Nat) (q2 : Option Addr) (n2 c2 : Nat) (g2 : Nat → Nat) (hn : 128 < n2) (w : World) (y0 : BytesAt w q0 n0 g0) (y1 : BytesAt w q1 n1 g1) (y2 : BytesAt w q2 n2 g2) (hlo : ∀ B o, q2 = some ⟨B, o, none⟩ → n2 ≠ 0 → B < w.heap.size) :
    Calls Try.prog 43 #[.slice q0 n0 c0, .slice q1 n1 c1, .slice q2 n2 c2, .bool false] w fun e w' => e = .returned (.bool true) ∧ Below w.heap.size w w' := by
  have d1 : decide ((128 : Int) < (n2 : Int)) = true := by simp; omega
  have d2 : decide (128 < n2) = true := by simp; omega
  have AL := Lib.hid (alive_ok w)
  have NC := Lib.hid (fun W => (show Calls Try.prog 12 #[.int .i64 2, .int .i64 1] W _ from New_ok 2 1 (by omega) (by omega) (by omega) (by omega) W))
  have C0 := Lib.hid (fun (W : World) (hW : Below w.heap.size w W) => Cell_any q0 n0 c0 g0 W (y0.below hW))
  have C1 := Lib.hid (fun (W : World) (hW : Below w.heap.size w W) => Cell_any q1 n1 c1 g1 W (y1.below hW))
  have P2 := Lib.hid (fun (W : World) (hW : Below w.heap.size w W) => y2.below hW)
  have HM := Lib.hid (Nat.le_refl w.heap.size)
  have HLO := Lib.hid hlo
  have HN := Lib.hid hn
  clear y0 y1 y2 hn hlo
  generalize hS : cellF n0 g0 = S at *
  generalize hN : cellF n1 g1 = N at *
  clear hS hN
  go_enter Try.func43, Try.ntmps43
  go_wp2_with (first
    | (go_at_call 10; refine (AL.out).mono ?_; rintro e w1 ⟨rfl, hb1⟩; have B1 := Lib.hid hb1; clear hb1 AL)
    | (go_at_call 12; refine (NC.out w1).mono ?_; rintro e w2 ⟨b, rfl, hd2, hb2, ho2⟩
       have D2 := Lib.hid hd2
       have B2 := Lib.hid (B1.out.trans (hb2.mono B1.out.size))
       have O2 := Lib.hid (fun k hk => Nat.le_trans B1.out.size (ho2 k hk))
       clear hd2 hb2 ho2 B1 NC)
    | (go_at_call 16; refine (C0.out w2 B2.out).mono ?_; rintro e w3 ⟨rfl, hb3⟩
       have D3 := Lib.hid (D2.out.below hb3)
       have B3 := Lib.hid (B2.out.trans (hb3.mono B2.out.size))
       clear hb3 D2 B2)
    | (go_at_call 15; refine (Write_on D3.out 0 rfl rfl (by decide) (by decide) S).mono ?_; rintro e w4 ⟨rfl, h1, h2⟩
       have D4 := Lib.hid h1
       have B4 := Lib.hid (keeps_below B3.out HM.out O2.out h2)
       clear h1 h2 D3 B3)
    | (go_at_call 18; refine (show Calls Try.prog 18 #[.pointer (some ⟨b.B, 0, none⟩), .int .i64 0, .int .i64 1] w4 _ from Flush_on D4.out 0 1 (show 0 + 1 ≤ 2 by decide) rfl (show 1 < 4611686018427387904 by decide) (show 0 < 9223372036854775808 by decide)).mono ?_; rintro e w5 ⟨rfl, h1, h2⟩
       have D5 := Lib.hid h1
       have B5 := Lib.hid (keeps_below B4.out HM.out O2.out h2)
       clear h1 h2 D4 B4)
    | (go_at_call 16; refine (C1.out w5 B5.out).mono ?_; rintro e w6 ⟨rfl, hb6⟩
       have D6 := Lib.hid (D5.out.below hb6)
       have B6 := Lib.hid (B5.out.trans (hb6.mono B5.out.size))
       clear hb6 D5 B5)
    | (go_at_call 15; refine (Write_on D6.out 0 rfl rfl (show 2 < 4611686018427387904 by decide) (show 0 < 9223372036854775808 by decide) N).mono ?_; rintro e w7 ⟨rfl, h1, h2⟩
       have D7 := Lib.hid (show DiskAt w7 b (dT S N) from by unfold dT; exact h1)
       have B7 := Lib.hid (keeps_below B6.out HM.out O2.out h2)
       clear h1 h2 D6 B6)
    | (go_at_call 23; refine (show Calls Try.prog 23 #[.pointer (some ⟨b.B, 0, none⟩), .int .i64 0, .slice q2 n2 c2] w7 fun e w' => e = .returned (.iface 52 (.int .i64 1)) ∧ w7 = w' from Tamper_range D7.out 0 q2 n2 c2 (.inr HN.out)).mono ?_; rintro e w8 ⟨rfl, rfl⟩
       have D8 := Lib.hid (show DiskAt w7 b (dT S N) from D7.out)
       have B8 := Lib.hid B7.out
       clear D7 B7)
    | (go_at_call 16; refine (C0.out w7 B8.out).mono ?_; rintro e w9 ⟨rfl, hb9⟩
       have D9 := Lib.hid (D8.out.below hb9)
       have B9 := Lib.hid (B8.out.trans (hb9.mono B8.out.size))
       clear hb9 D8 B8)
    | (go_at_call 16; refine (C1.out w9 B9.out).mono ?_; rintro e w10 ⟨rfl, hb10⟩
       have D10 := Lib.hid (D9.out.below hb10)
       have B10 := Lib.hid (B9.out.trans (hb10.mono B9.out.size))
       have Q10 := Lib.hid (show ¬ b.own w10.heap.size ∧ ¬ b.own (w10.heap.size + 1) from ⟨fun e => absurd (D10.out.lt e) (Nat.lt_irrefl _), fun e => by have := D10.out.lt e; omega⟩)
       have E12 := Lib.hid (show Bx ((w10.alloc (.cells (cellsOf .u8 (mk 128 zeroK)) 40)).alloc (.cells (cellsOf .u8 (mk 128 zeroK)) 40)) b w10.heap.size zeroK from ⟨(IntBlk.new _ _ _ _).alloc _, Q10.out.1⟩)
       have E13 := Lib.hid (show Bx ((w10.alloc (.cells (cellsOf .u8 (mk 128 zeroK)) 40)).alloc (.cells (cellsOf .u8 (mk 128 zeroK)) 40)) b (w10.heap.size + 1) zeroK from ⟨blk_two _ _ _ _ _, Q10.out.2⟩)
       have D11 := Lib.hid ((D10.out.alloc (.cells (cellsOf .u8 (mk 128 zeroK)) 40)).alloc (.cells (cellsOf .u8 (mk 128 zeroK)) 40))
       have B11 := Lib.hid (B10.out.trans ((below_two w10 (.cells (cellsOf .u8 (mk 128 zeroK)) 40) (.cells (cellsOf .u8 (mk 128 zeroK)) 40)).mono B10.out.size))
       have N12 := Lib.hid (show w10.heap.size ≠ w10.heap.size + 1 by omega)
       have L12 := Lib.hid (show w.heap.size ≤ w10.heap.size ∧ w.heap.size ≤ w10.heap.size + 1 from ⟨B10.out.size, Nat.le_succ_of_le B10.out.size⟩)
       clear hb10 D9 B9 D10 B10)
    | (refine wpList_sec_alloc rfl rfl w10.heap.size rfl ?_)
    | (refine wpList_sec_alloc rfl rfl (w10.heap.size + 1) ?own ?_
       case own => exact World.size_alloc _ _)
    | (refine store_row_on rfl 40 _ _ rfl rfl w10.heap.size (cellsOf .u8 (mk 128 S)) rfl rfl 40 (cellsOf .u8 (mk 128 zeroK)) E12.out.blk (secSize _) (sec_same _ _) (cellsOf_one _ _) ?_
       have X12 := Lib.hid (show Bx _ b w10.heap.size S from ⟨E12.out.blk.setRow .u8 (mk 128 S), E12.out.out⟩)
       have X13 := Lib.hid (E13.out.other N12.out.symm (cellsOf .u8 (mk 128 S)))
       have D12 := Lib.hid (disk_row D11.out E12.out.out (cellsOf .u8 (mk 128 S)))
       have B12 := Lib.hid (below_setRow B11.out L12.out.1 (cellsOf .u8 (mk 128 S)))
       clear E12 E13 D11 B11)
    | (refine store_row_on rfl 40 _ _ rfl rfl (w10.heap.size + 1) (cellsOf .u8 (mk 128 N)) rfl rfl 40 (cellsOf .u8 (mk 128 zeroK)) X13.out.blk (secSize _) (sec_same _ _) (cellsOf_one _ _) ?_
       have I12 := Lib.hid (X12.out.other N12.out (cellsOf .u8 (mk 128 N)))
       have I13 := Lib.hid (show Bx _ b (w10.heap.size + 1) N from ⟨X13.out.blk.setRow .u8 (mk 128 N), X13.out.out⟩)
       have D13 := Lib.hid (disk_row D12.out X13.out.out (cellsOf .u8 (mk 128 N)))
       have B13 := Lib.hid (below_setRow B12.out L12.out.2 (cellsOf .u8 (mk 128 N)))
       clear X12 X13 D12 B12
       generalize (((w10.alloc (.cells (cellsOf .u8 (mk 128 zeroK)) 40)).alloc (.cells (cellsOf .u8 (mk 128 zeroK)) 40)).setRow w10.heap.size (cellsOf .u8 (mk 128 S))).setRow (w10.heap.size + 1) (cellsOf .u8 (mk 128 N)) = w13 at *)
    | (go_at_call 28; refine (Is_err 1 rfl _).mono ?_; rintro e w14 ⟨rfl, rfl⟩
       have J12 := Lib.hid I12.out
       have J13 := Lib.hid I13.out
       have D15 := Lib.hid D13.out
       have B15 := Lib.hid B13.out
       clear I12 I13 D13 B13)
    | (go_at_call 32
       refine (show Calls Try.prog 32 #[.pointer (some ⟨b.B, 0, none⟩), .int .i64 0] w13 _ from Read_ok D15.out 0 (by unfold dT; show 0 < 2; decide) (by unfold dT; rfl)).mono ?_; rintro e w16 ⟨rfl, h1⟩
       rw [dT_now]
       have D16 := Lib.hid (D15.out.below h1)
       have B16 := Lib.hid (B15.out.trans (h1.mono B15.out.size))
       have M12 := Lib.hid (J12.out.below h1)
       have M13 := Lib.hid (J13.out.below h1)
       clear h1 D15 B15 J12 J13)
    | (refine wpList_sec_alloc rfl rfl w16.heap.size rfl ?_)
    | (refine store_row_on rfl 40 _ _ rfl rfl w16.heap.size (cellsOf .u8 (mk 128 N)) rfl rfl 40 (cellsOf .u8 (mk 128 zeroK)) (heap_alloc_new _ _) (secSize _) (sec_same _ _) (cellsOf_one _ _) ?_
       have L17 := Lib.hid (sec_laid w16 N)
       generalize (w16.alloc (.cells (cellsOf .u8 (mk 128 zeroK)) 40)).setRow w16.heap.size (cellsOf .u8 (mk 128 N)) = w17 at *
       have D17 := Lib.hid (D16.out.below L17.out.2)
       have B17 := Lib.hid (B16.out.trans (L17.out.2.mono B16.out.size))
       have R12 := Lib.hid (M12.out.below L17.out.2)
       have R13 := Lib.hid (M13.out.below L17.out.2)
       have R14 := Lib.hid L17.out.1
       clear D16 B16 L17 M12 M13)
    | (refine wpList_sec_load rfl _ rfl w16.heap.size N rfl R14.out ?_)
    | (refine wpList_sec_load rfl _ rfl (w10.heap.size + 1) N rfl R13.out.blk ?_)
    | (refine wpList_sec_neq rfl _ _ rfl N N rfl rfl rfl ?_)
    | (go_at_call 34
       refine (show Calls Try.prog 34 #[.pointer (some ⟨b.B, 0, none⟩)] w17 fun e w' => e = .returned (.int .i64 3) ∧ w17 = w' from by have := Steps_ok D17.out; unfold dT at this; exact this).mono ?_; rintro e w18 ⟨rfl, rfl⟩
       clear R14)
    | (go_at_call 29
       refine (show Calls Try.prog 29 #[.pointer (some ⟨b.B, 0, none⟩), .slice none 0 0] w17 _ from Crash_ok D17.out none [] 0 (.inl rfl) (by decide)).mono ?_; rintro e w20 ⟨rfl, h1, h2⟩
       have D20 := Lib.hid h1
       have B20 := Lib.hid (keeps_below B17.out HM.out O2.out h2)
       have T12 := Lib.hid (R12.out.keeps h2)
       clear h1 h2 D17 B17 R12 R13)
    | (go_at_call 32
       refine (show Calls Try.prog 32 #[.pointer (some ⟨b.B, 0, none⟩), .int .i64 0] w20 _ from Read_ok D20.out 0 (by unfold dT; show 0 < 2; decide) rfl).mono ?_; rintro e w21 ⟨rfl, h1⟩
       rw [dT_lost]
       have D21 := Lib.hid (D20.out.below h1)
       have B21 := Lib.hid (B20.out.trans (h1.mono B20.out.size))
       have P12 := Lib.hid (T12.out.below h1)
       clear h1 D20 B20 T12)
    | (refine wpList_sec_alloc rfl rfl w21.heap.size rfl ?_)
    | (refine store_row_on rfl 40 _ _ rfl rfl w21.heap.size (cellsOf .u8 (mk 128 S)) rfl rfl 40 (cellsOf .u8 (mk 128 zeroK)) (heap_alloc_new _ _) (secSize _) (sec_same _ _) (cellsOf_one _ _) ?_
       have L22 := Lib.hid (sec_laid w21 S)
       generalize (w21.alloc (.cells (cellsOf .u8 (mk 128 zeroK)) 40)).setRow w21.heap.size (cellsOf .u8 (mk 128 S)) = w22 at *
       have D22 := Lib.hid (D21.out.below L22.out.2)
       have B22 := Lib.hid (B21.out.trans (L22.out.2.mono B21.out.size))
       have A12 := Lib.hid (P12.out.below L22.out.2)
       have A16 := Lib.hid L22.out.1
       clear D21 B21 L22 P12)
    | (go_at_call 32
       refine (show Calls Try.prog 32 #[.pointer (some ⟨b.B, 0, none⟩), .int .i64 1] w22 _ from Read_ok D22.out 1 (by unfold dT; show 1 < 2; decide) rfl).mono ?_; rintro e w23 ⟨rfl, h1⟩
       rw [dT_lost1]
       have B23 := Lib.hid (B22.out.trans (h1.mono B22.out.size))
       have F12 := Lib.hid (A12.out.below h1)
       have F16 := Lib.hid (A16.out.below h1 A16.out.lt)
       clear h1 D22 B22 A12 A16)
    | (refine wpList_sec_alloc rfl rfl w23.heap.size rfl ?_)
    | (refine store_row_on rfl 40 _ _ rfl rfl w23.heap.size (cellsOf .u8 (mk 128 zeroK)) rfl rfl 40 (cellsOf .u8 (mk 128 zeroK)) (heap_alloc_new _ _) (secSize _) (sec_same _ _) (cellsOf_one _ _) ?_
       have L24 := Lib.hid (sec_laid w23 zeroK)
       generalize (w23.alloc (.cells (cellsOf .u8 (mk 128 zeroK)) 40)).setRow w23.heap.size (cellsOf .u8 (mk 128 zeroK)) = w24 at *
       have B24 := Lib.hid (B23.out.trans (L24.out.2.mono B23.out.size))
       have G12 := Lib.hid (F12.out.below L24.out.2)
       have G16 := Lib.hid (F16.out.below L24.out.2 F16.out.lt)
       have G17 := Lib.hid L24.out.1
       clear B23 L24 F12 F16)
    | (refine wpList_sec_load rfl _ rfl w21.heap.size S rfl G16.out ?_)
    | (refine wpList_sec_load rfl _ rfl w10.heap.size S rfl G12.out.blk ?_)
    | (refine wpList_sec_eql rfl _ _ rfl S S rfl rfl rfl ?_)
    | (refine wpList_sec_load rfl _ rfl w23.heap.size zeroK rfl G17.out ?_)
    | (refine wpList_sec_build0 rfl rfl ?_)
    | (refine wpList_sec_eql rfl _ _ rfl zeroK zeroK rfl rfl rfl ?_))
  go_ret
  exact ⟨rfl, B24.out⟩
end Go.Proofs.Ytbejfpdkfpgipaa.platterTouched

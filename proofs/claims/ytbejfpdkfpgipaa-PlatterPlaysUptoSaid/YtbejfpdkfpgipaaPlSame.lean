/- The contract of citadellaw09.same: a disk and the document's that hold the same are the same to read. Condition: both lie in memory, over one record. -/
import Derived.Test.YtbejfpdkfpgipaaPlRefB
import Derived.Test.YtbejfpdkfpgipaaPlRead
import Derived.Test.YtbejfpdkfpgipaaPlMisc
namespace Go.Proofs.Ytbejfpdkfpgipaa
open Go.ChangeShapes Go.WideShapes Go.ChangeAt Go.RowKit
set_option linter.unusedVariables false
attribute [local irreducible] mk
set_option maxRecDepth 100000 in
set_option maxHeartbeats 2000000 in
theorem same_ok {w : World} {b : Blks} {r : RBlk} {base : Nat} {d : Disk} {L : Nat} {R : Since} (hd : DiskAt w b d) (hr : RefAt w r base d L R) : Calls Try.prog 38 #[.pointer (some ⟨b.B, 0, none⟩), .pointer (some ⟨r.B, 0, none⟩)] w fun e w' => e = .returned (.bool true) ∧ Below w.heap.size w w' := by
  have HD := Lib.hid hd
  have HR := Lib.hid hr
  have HNC := Lib.hid hr.nc
  have HNS := Lib.hid hr.ns2
  have c2 := hr.c2
  have RC := Lib.hid (Counter_range hd (d.cnt.length : Int) (by unfold hasB; simp))
  have HB0 := Lib.hid (Below.refl w.heap.size w)
  clear hd hr
  go_enter Try.func38, Try.ntmps38
  go_wp2
  go_loopw [20] (fun v20 wr => ∃ k : Nat, k ≤ d.cnt.length ∧ v20 = .int .i64 k ∧ w = wr) (fun v20 _ => d.cnt.length - (intOf v20).toNat)
  case atStart => exact ⟨0, Nat.zero_le _, rfl, rfl⟩
  case round =>
    obtain ⟨k, hk, rfl, rfl⟩ := hrel
    by_cases hlt : k < d.cnt.length
    · have HLT := Lib.hid hlt
      have CC := Lib.hid (Counter_ok HD.out k hlt)
      have cc := HR.out.cnts.cell (i := k) hlt
      have f1 : (k : Int) < (d.cnt.length : Int) := by omega
      have f2 : (0 : Int) ≤ k := by omega
      have f3 : IntKind.i64.wrap ((k : Int) + 1) = ((k + 1 : Nat) : Int) := by have := HNC.out; rw [IntWalk.i64_in _ (by omega)]; omega
      clear hlt
      generalize d.cnt.getD k 0 = x at *
      go_wp2_with (first
        | (go_at_call 39; refine (CC.out).mono ?_; rintro e w1 ⟨rfl, rfl⟩))
      go_roundw
      case rel => exact ⟨k + 1, HLT.out, by go_num, trivial⟩
      case measure => have := HLT.out; simp [intOf]; omega
    · have f1 : ¬ (k : Int) < (d.cnt.length : Int) := by omega
      have c0 := HR.out.c0
      unfold errV at RC
      clear hlt hk
      go_wp2_with (first
        | (go_at_call 39; refine (RC.out).mono ?_; rintro e w1 ⟨rfl, rfl⟩)
        | (go_at_call 28; refine (Is_err 1 rfl _).mono ?_; rintro e w1 ⟨rfl, rfl⟩))
      clear c2 c0
      go_loopw [61] (fun v61 wr => ∃ k : Nat, k ≤ d.ns ∧ v61 = .int .i64 k ∧ Below w.heap.size w wr) (fun v61 _ => d.ns - (intOf v61).toNat)
      case atStart => exact ⟨0, Nat.zero_le _, rfl, HB0.out⟩
      case round =>
        obtain ⟨k, hk, rfl, hb⟩ := hrel
        have D1 := Lib.hid (HD.out.below (hb.mono (Nat.le_refl _)))
        have R1 := Lib.hid (HR.out.below (hb.mono (Nat.le_refl _)))
        have B1 := Lib.hid hb
        clear hb RC HB0
        by_cases hlt : k < d.ns
        · have HLT := Lib.hid hlt
          have f1 : (k : Int) < (d.ns : Int) := by omega
          have f2 : (0 : Int) ≤ k := by omega
          have f3 : IntKind.i64.wrap ((k : Int) + 1) = ((k + 1 : Nat) : Int) := by have := HNS.out; rw [IntWalk.i64_in _ (by omega)]; omega
          obtain ⟨f, hf⟩ := ref_now_mk HR.out hlt
          have HF := Lib.hid hf
          have HHB := Lib.hid (show hasB d.ns (k : Int) = true by unfold hasB; simp; exact hlt)
          clear hlt hf
          by_cases hdn : d.down = true
          · have HDN := Lib.hid hdn
            clear hdn
            go_wp2_with (first
              | (go_at_call 32; refine (Read_down D1.out k HHB.out HDN.out).mono ?_; rintro e w2 ⟨rfl, h1⟩; unfold errV zeroSec
                 have B2 := Lib.hid (B1.out.trans (h1.mono B1.out.size))
                 have R2 := Lib.hid (R1.out.below h1)
                 clear h1 D1 R1 B1)
              | (refine wpList_sec_alloc rfl rfl w2.heap.size rfl ?_)
              | (refine store_row_on rfl 40 _ _ rfl rfl w2.heap.size (cellsOf .u8 (mk 128 zeroK)) rfl rfl 40 (cellsOf .u8 (mk 128 zeroK)) (heap_alloc_new _ _) (secSize _) (sec_same _ _) (cellsOf_one _ _) ?_
                 have L3 := Lib.hid (sec_laid w2 zeroK)
                 generalize (w2.alloc (.cells (cellsOf .u8 (mk 128 zeroK)) 40)).setRow w2.heap.size (cellsOf .u8 (mk 128 zeroK)) = w3 at *
                 have B3 := Lib.hid (B2.out.trans (L3.out.2.mono B2.out.size))
                 have R3 := Lib.hid (R2.out.below L3.out.2)
                 clear B2 R2)
              | (go_at_call 33; refine (rRead_down R3.out k HHB.out HDN.out).mono ?_; rintro e w4 ⟨rfl, h1⟩; unfold zeroSec
                 have B4 := Lib.hid (B3.out.trans (h1.mono B3.out.size))
                 have A4 := Lib.hid (L3.out.1.below h1 L3.out.1.lt)
                 clear h1 B3 L3)
              | (refine wpList_sec_alloc rfl rfl w4.heap.size rfl ?_)
              | (refine store_row_on rfl 40 _ _ rfl rfl w4.heap.size (cellsOf .u8 (mk 128 zeroK)) rfl rfl 40 (cellsOf .u8 (mk 128 zeroK)) (heap_alloc_new _ _) (secSize _) (sec_same _ _) (cellsOf_one _ _) ?_
                 have L5 := Lib.hid (sec_laid w4 zeroK)
                 generalize (w4.alloc (.cells (cellsOf .u8 (mk 128 zeroK)) 40)).setRow w4.heap.size (cellsOf .u8 (mk 128 zeroK)) = w5 at *
                 have B5 := Lib.hid (B4.out.trans (L5.out.2.mono B4.out.size))
                 have A5 := Lib.hid (A4.out.below L5.out.2 A4.out.lt)
                 clear B4 A4)
              | (refine wpList_sec_load rfl _ rfl w2.heap.size zeroK rfl A5.out ?_)
              | (refine wpList_sec_load rfl _ rfl w4.heap.size zeroK rfl L5.out.1 ?_)
              | (refine wpList_sec_neq rfl _ _ rfl zeroK zeroK rfl rfl rfl ?_)
              | (go_at_call 14; refine (Num_err 5 rfl _).mono ?_; rintro e w8 ⟨rfl, rfl⟩))
            go_roundw
            case rel => exact ⟨k + 1, HLT.out, by go_num, B5.out⟩
            case measure => have := HLT.out; simp [intOf]; omega
          · have HDN := Lib.hid (show d.down = false by simpa using hdn)
            clear hdn
            go_wp2_with (first
              | (go_at_call 32; refine (Read_ok D1.out k HLT.out HDN.out).mono ?_; rintro e w2 ⟨rfl, h1⟩; rw [HF.out]
                 have B2 := Lib.hid (B1.out.trans (h1.mono B1.out.size))
                 have R2 := Lib.hid (R1.out.below h1)
                 clear h1 D1 R1 B1)
              | (refine wpList_sec_alloc rfl rfl w2.heap.size rfl ?_)
              | (refine store_row_on rfl 40 _ _ rfl rfl w2.heap.size (cellsOf .u8 (mk 128 f)) rfl rfl 40 (cellsOf .u8 (mk 128 zeroK)) (heap_alloc_new _ _) (secSize _) (sec_same _ _) (cellsOf_one _ _) ?_
                 have L3 := Lib.hid (sec_laid w2 f)
                 generalize (w2.alloc (.cells (cellsOf .u8 (mk 128 zeroK)) 40)).setRow w2.heap.size (cellsOf .u8 (mk 128 f)) = w3 at *
                 have B3 := Lib.hid (B2.out.trans (L3.out.2.mono B2.out.size))
                 have R3 := Lib.hid (R2.out.below L3.out.2)
                 clear B2 R2)
              | (go_at_call 33; refine (rRead_ok R3.out k HLT.out HDN.out).mono ?_; rintro e w4 ⟨rfl, h1⟩; rw [HF.out]
                 have B4 := Lib.hid (B3.out.trans (h1.mono B3.out.size))
                 have A4 := Lib.hid (L3.out.1.below h1 L3.out.1.lt)
                 clear h1 B3 L3)
              | (refine wpList_sec_alloc rfl rfl w4.heap.size rfl ?_)
              | (refine store_row_on rfl 40 _ _ rfl rfl w4.heap.size (cellsOf .u8 (mk 128 f)) rfl rfl 40 (cellsOf .u8 (mk 128 zeroK)) (heap_alloc_new _ _) (secSize _) (sec_same _ _) (cellsOf_one _ _) ?_
                 have L5 := Lib.hid (sec_laid w4 f)
                 generalize (w4.alloc (.cells (cellsOf .u8 (mk 128 zeroK)) 40)).setRow w4.heap.size (cellsOf .u8 (mk 128 f)) = w5 at *
                 have B5 := Lib.hid (B4.out.trans (L5.out.2.mono B4.out.size))
                 have A5 := Lib.hid (A4.out.below L5.out.2 A4.out.lt)
                 clear B4 A4)
              | (refine wpList_sec_load rfl _ rfl w2.heap.size f rfl A5.out ?_)
              | (refine wpList_sec_load rfl _ rfl w4.heap.size f rfl L5.out.1 ?_)
              | (refine wpList_sec_neq rfl _ _ rfl f f rfl rfl rfl ?_)
              | (go_at_call 14; refine (Num_nil _).mono ?_; rintro e w8 ⟨rfl, rfl⟩))
            go_roundw
            case rel => exact ⟨k + 1, HLT.out, by go_num, B5.out⟩
            case measure => have := HLT.out; simp [intOf]; omega
        · have f1 : ¬ (k : Int) < (d.ns : Int) := by omega
          have c0 := R1.out.c0
          have SC := Lib.hid (fun V (hV : ∀ k, V.heap[k]? = wr.heap[k]?) => Size_still (D1.out.keep (w' := V) fun k _ => hV k))
          clear hlt hk HD HR D1 R1
          go_wp2
          go_quiet ((go_at_call 42; refine Calls.quiet_of_same (SC.out _ (fun _ => rfl))))
          go_wp2
          go_ret
          exact ⟨rfl, below_drewN B1.out _⟩
end Go.Proofs.Ytbejfpdkfpgipaa

/- The fixed fact that every law of the layer asks first: the chapter's example. No condition. -/
import Derived.Test.YtbejfpdkfpgipaaPlNew
import Derived.Test.YtbejfpdkfpgipaaPlTamper
import Derived.Test.YtbejfpdkfpgipaaPlCrash
import Derived.Test.YtbejfpdkfpgipaaPlRaise
namespace Go.Proofs.Ytbejfpdkfpgipaa
open Go.ChangeShapes Go.WideShapes Go.ChangeAt Go.RowKit
set_option linter.unusedVariables false
def oneF (c : Nat) : Nat → Nat := fun j => if j = 0 then c else 0
theorem sec_built_one (c : Nat) : Try.prog.built 40 [(0, .int .u8 c)] = some (cellsOf .u8 (mk 128 (oneF c))) := by kernel_rfl
theorem keeps_below {M : Nat} {w0 w1 w2 : World} {b : Blks} (hB : Below M w0 w1) (hM : M ≤ w0.heap.size) (hO : ∀ k, b.own k → M ≤ k) (hK : Keeps b.own w1 w2) : Below M w0 w2 :=
  hB.trans (hK.below (Nat.le_trans hM hB.size) fun k hk e => absurd (hO k e) (by omega))
theorem ints_one (w : World) (x : Int) : IntsAt (w.alloc (.cells #[.int .i64 x] 3)) (some ⟨w.heap.size, 0, none⟩) [x] :=
  .inr ⟨_, 0, rfl, by simp, fun j hj => by
    have : j = 0 := by simpa using hj
    subst this
    exact (cell_of_row _ _ _ _ _ _ (heap_alloc_new _ _)).trans rfl⟩
section
variable {ops : Array Oper} {rest : List Oper} {o : Oper} {a : Act} {w : World} {Q : Exit → Act → World → Prop}
theorem wpList_sec_one (hw : Region.wanted o (yielded ops a.tmps) = true) (x : Operand) (ho : o.op = .build 40 #[(0, x)]) (c : Nat) (hx : a.eval x = .int .u8 c)
    (h : wpList Try.prog ops Q rest (a.put o.dst (.agg (cellsOf .u8 (mk 128 (oneF c))))) w) : wpList Try.prog ops Q (o :: rest) a w :=
  wanted_step hw fun K hK => by
    have e := run_build w 40 #[(0, .int .u8 c)] _ (sec_built_one c)
    unfold Oper.wp execOp
    simp only [ho]
    simp [hx, e]
    exact hK _ _ h
end
attribute [local irreducible] mk
def dA0 : Disk := newD 2 1
def dA1 : Disk := dA0.wrote 0 (mk 128 (oneF 1))
def dA2 : Disk := dA1.went.settled (askF 0 1)
def dA3 : Disk := dA2.wrote 0 (mk 128 (oneF 2))
def dA4 : Disk := dA3.wrote 1 (mk 128 (oneF 3))
def dA5 : Disk := dA4.crashed [1]
theorem dA5_0 : dA5.now 0 = mk 128 (oneF 1) := rfl
theorem dA5_1 : dA5.now 1 = mk 128 (oneF 3) := rfl
set_option maxRecDepth 100000 in
set_option maxHeartbeats 2000000 in
theorem alive_ok (w : World) : Calls Try.prog 10 #[] w fun e w' => e = .returned (.bool true) ∧ Below w.heap.size w w' := by
  have HN : Calls Try.prog 12 #[.int .i64 2, .int .i64 1] w _ := New_ok 2 1 (by omega) (by omega) (by omega) (by omega) w
  have NC := Lib.hid HN
  have HM := Lib.hid (Nat.le_refl w.heap.size)
  clear HN
  go_enter Try.func10, Try.ntmps10
  go_wp2_with (first
    | (go_at_call 12; refine (NC.out).mono ?_; rintro e w0 ⟨b, rfl, h1, h2, h3⟩
       have D0 := Lib.hid (show DiskAt w0 b dA0 from h1)
       have B0 := Lib.hid h2
       have O0 := Lib.hid h3
       clear h1 h2 h3 NC)
    | (go_at_call 15; refine (Write_on D0.out 0 rfl rfl (by decide) (by decide) (oneF 1)).mono ?_; rintro e w1 ⟨rfl, h1, h2⟩
       have D1 := Lib.hid (show DiskAt w1 b dA1 from h1)
       have B1 := Lib.hid (keeps_below B0.out HM.out O0.out h2)
       clear h1 h2 D0 B0)
    | (go_at_call 18; refine (show Calls Try.prog 18 #[.pointer (some ⟨b.B, 0, none⟩), .int .i64 0, .int .i64 1] w1 _ from Flush_on D1.out 0 1 (by decide) rfl (by decide) (by decide)).mono ?_; rintro e w2 ⟨rfl, h1, h2⟩
       have D2 := Lib.hid (show DiskAt w2 b dA2 from h1)
       have B2 := Lib.hid (keeps_below B1.out HM.out O0.out h2)
       clear h1 h2 D1 B1)
    | (go_at_call 15; refine (Write_on D2.out 0 rfl rfl (by decide) (by decide) (oneF 2)).mono ?_; rintro e w3 ⟨rfl, h1, h2⟩
       have D3 := Lib.hid (show DiskAt w3 b dA3 from h1)
       have B3 := Lib.hid (keeps_below B2.out HM.out O0.out h2)
       clear h1 h2 D2 B2)
    | (go_at_call 15; refine (Write_on D3.out 1 rfl rfl (by decide) (by decide) (oneF 3)).mono ?_; rintro e w4 ⟨rfl, h1, h2⟩
       have D4 := Lib.hid (show DiskAt w4 b dA4 from h1)
       have B4 := Lib.hid (keeps_below B3.out HM.out O0.out h2)
       clear h1 h2 D3 B3)
    | (go_at_call 29
       have I4 := Lib.hid (ints_one w4 1)
       have BB := Lib.hid ((Below.refl _ w4).alloc (Nat.le_refl _) (.cells #[.int .i64 1] 3))
       generalize w4.alloc (.cells #[.int .i64 1] 3) = u4 at *
       refine (Crash_ok (D4.out.below BB.out) (some ⟨w4.heap.size, 0, none⟩) [1] 1 I4.out (by decide)).mono ?_; rintro e w5 ⟨rfl, h1, h2⟩
       have D5 := Lib.hid (show DiskAt w5 b dA5 from h1)
       have B5 := Lib.hid (keeps_below (B4.out.trans (BB.out.mono B4.out.size)) HM.out O0.out h2)
       clear h1 h2 D4 B4 I4 BB)
    | (go_at_call 32
       refine (show Calls Try.prog 32 #[.pointer (some ⟨b.B, 0, none⟩), .int .i64 0] w5 _ from Read_ok D5.out 0 (by decide) rfl).mono ?_; rintro e w6 ⟨rfl, h1⟩
       rw [dA5_0]
       have D6 := Lib.hid (D5.out.below h1)
       have B6 := Lib.hid (B5.out.trans (h1.mono B5.out.size))
       clear h1 D5 B5)
    | (refine wpList_sec_alloc rfl rfl w6.heap.size rfl ?_)
    | (refine store_row_on rfl 40 _ _ rfl rfl w6.heap.size (cellsOf .u8 (mk 128 (oneF 1))) rfl rfl 40 (cellsOf .u8 (mk 128 zeroK)) (heap_alloc_new _ _) (secSize _) (sec_same _ _) (cellsOf_one _ _) ?_
       have L7 := Lib.hid (sec_laid w6 (oneF 1))
       generalize (w6.alloc (.cells (cellsOf .u8 (mk 128 zeroK)) 40)).setRow w6.heap.size (cellsOf .u8 (mk 128 (oneF 1))) = w7 at *
       have D7 := Lib.hid (D6.out.below L7.out.2)
       have B7 := Lib.hid (B6.out.trans (L7.out.2.mono B6.out.size))
       have X7 := Lib.hid L7.out.1
       clear D6 B6 L7)
    | (go_at_call 32
       refine (show Calls Try.prog 32 #[.pointer (some ⟨b.B, 0, none⟩), .int .i64 1] w7 _ from Read_ok D7.out 1 (by decide) rfl).mono ?_; rintro e w8 ⟨rfl, h1⟩
       rw [dA5_1]
       have D8 := Lib.hid (D7.out.below h1)
       have B8 := Lib.hid (B7.out.trans (h1.mono B7.out.size))
       have X8 := Lib.hid (X7.out.below h1 X7.out.lt)
       clear h1 D7 B7 X7)
    | (refine wpList_sec_alloc rfl rfl w8.heap.size rfl ?_)
    | (refine store_row_on rfl 40 _ _ rfl rfl w8.heap.size (cellsOf .u8 (mk 128 (oneF 3))) rfl rfl 40 (cellsOf .u8 (mk 128 zeroK)) (heap_alloc_new _ _) (secSize _) (sec_same _ _) (cellsOf_one _ _) ?_
       have L9 := Lib.hid (sec_laid w8 (oneF 3))
       generalize (w8.alloc (.cells (cellsOf .u8 (mk 128 zeroK)) 40)).setRow w8.heap.size (cellsOf .u8 (mk 128 (oneF 3))) = w9 at *
       have D9 := Lib.hid (D8.out.below L9.out.2)
       have B9 := Lib.hid (B8.out.trans (L9.out.2.mono B8.out.size))
       have X9 := Lib.hid (X8.out.below L9.out.2 X8.out.lt)
       have Y9 := Lib.hid L9.out.1
       clear D8 B8 L9 X8)
    | (refine wpList_sec_load rfl _ rfl w6.heap.size (oneF 1) rfl X9.out ?_)
    | (refine wpList_sec_load rfl _ rfl w8.heap.size (oneF 3) rfl Y9.out ?_)
    | (refine wpList_sec_eql rfl _ _ rfl (oneF 1) (oneF 1) rfl rfl rfl ?_)
    | (refine wpList_sec_eql rfl _ _ rfl (oneF 3) (oneF 3) rfl rfl rfl ?_)
    | (go_at_call 34
       refine (show Calls Try.prog 34 #[.pointer (some ⟨b.B, 0, none⟩)] w9 fun e w' => e = .returned (.int .i64 4) ∧ w9 = w' from Steps_ok D9.out).mono ?_; rintro e w10 ⟨rfl, rfl⟩)
    | (refine wpList_sec_one rfl _ rfl 1 rfl ?_)
    | (refine wpList_sec_one rfl _ rfl 2 rfl ?_)
    | (refine wpList_sec_one rfl _ rfl 3 rfl ?_))
  go_ret
  exact ⟨rfl, B9.out⟩
end Go.Proofs.Ytbejfpdkfpgipaa

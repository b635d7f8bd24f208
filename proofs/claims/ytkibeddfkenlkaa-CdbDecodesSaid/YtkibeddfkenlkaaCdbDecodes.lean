/- CdbDecodes: which command any bytes are. No condition but the arguments' own forms. -/
import Derived.Test.YtkibeddfkenlkaaCbDx
import Derived.Test.YtkibeddfkenlkaaCbOpen
namespace Go.Proofs.Ytkibeddfkenlkaa
open Go.ChangeShapes Go.WideShapes Go.ChangeAt Go.RowKit
namespace cdbDecodes
set_option linter.unusedVariables false
set_option linter.unusedSimpArgs false
theorem own : ownKnob Try.prog.godebug = none := by kernel_rfl
theorem pOf_nil (D : Nat) : pOf D true = none := rfl
attribute [local irreducible] cmA allC bytC lenC bytesN numsC markF cat mk zeroK checkN goodC isC rawC rawN dataF exG extF pOf
attribute [local go_sem] Oper.semAt_some
set_option maxRecDepth 100000 in
set_option maxHeartbeats 16000000 in
theorem walk {w : World} (q : Option Addr) (n c : Nat) (g : Nat → Nat) (hg : ∀ i, i < n → g i < 256) (hq : BytesAt w q n g) (hnc : n ≤ c) (hc : c ≤ maxLen) : Calls Try.prog 4 #[.slice q n c] w fun e w' => e = .returned (.bool true) ∧ Below w.heap.size w w' := by
  have HQ := Lib.hid (fun (W : World) (hb : Below w.heap.size w W) => hq.below hb)
  have HG := Lib.hid hg
  have HNC := Lib.hid hnc
  clear hg hnc hc hq
  by_cases hl : (16384 : Int) < (n : Int)
  · have f1 : decide ((16384 : Int) < (n : Int)) = true := by simp [hl]
    have f2 : decide (16384 < n) = true := by simp; omega
    clear hl HQ
    go_enter Try.func4, Try.ntmps4
    go_wp2_with (first
      | (go_at_call 17
         have a1 : Below w.heap.size w (w.alloc (.cells #[.int .u8 1, .int .u8 1, .int .u8 0, .int .u8 2, .int .u8 0, .int .u8 3] 5)) := (Below.refl _ _).alloc (Nat.le_refl _) _
         refine (Decode_ex (c := 6) (ex_blk w).bytesAt (Nat.le_refl _)).mono ?_; rintro e w1 ⟨q1, rfl, l1⟩
         have P1 := Lib.hid (show LwS w [] w1 from ⟨fun {i x} hi => by simp at hi, a1.trans (l1.mono a1.size)⟩)
         clear a1 l1)
      | (with_reducible show wpList _ _ _ (⟨some 3, Op.alloc cmT, _, _, _, _⟩ :: _) _ _
         refine wpList_boxA_new rowCm rfl rfl w1.heap.size rfl ?_
         intro w1a xx ll ss
         have XX := Lib.hid xx
         have LL := Lib.hid ll
         clear xx ll ss)
      | (with_reducible show wpList _ _ _ (⟨_, Op.store cmT (.tmp 3) _, _, _, _, none⟩ :: _) _ _
         refine wpList_boxA_put rowCm rfl _ _ rfl rfl w1.heap.size (cmA q1 0 0 exC) _ (cmA_size _ _ _ _) (cmA_one _ _ _ _) (cmA_size _ _ _ _) rfl rfl XX.out ?_
         intro w2 xx kk ss
         have bb := low_put LL.out (Nat.le_refl _) kk
         have P1b := Lib.hid (P1.out.add rfl LL.out xx kk)
         clear xx kk ss bb XX LL P1))
    refine wp_region_sched [(0, true), (1, true), (2, true), (3, true), (4, false), (5, false), (6, true), (7, true)] (fun V => BoxA V w1.heap.size cmT (cmA q1 0 0 exC)) (by kernel_rfl) (by kernel_rfl) (show BoxA _ w1.heap.size cmT (cmA q1 0 0 exC) from P1b.out.box (i := 0) rfl) ?_
    have XB := Lib.hid (show BoxA w2.drew w1.heap.size cmT (cmA q1 0 0 exC) from P1b.out.box (i := 0) rfl)
    have PB := Lib.hid (show LwS w [(w1.heap.size, cmA q1 0 0 exC)] w2.drew from ⟨fun hi => P1b.out.box hi, P1b.out.low.drew⟩)
    clear P1b
    refine walk_float rfl rfl (fun K hK => ?_)
    refine gives_move _ rfl ?_
    go_simp
    refine hK _ ?_
    clear hK K
    refine walk_float rfl rfl (fun K hK => ?_)
    refine gives_nil_neq _ rfl rfl ?_
    go_simp
    refine hK _ ?_
    clear hK K
    refine walk_float rfl rfl (fun K hK => ?_)
    refine gives_move _ rfl ?_
    go_simp
    refine hK _ ?_
    clear hK K
    refine walk_float rfl rfl (fun K hK => ?_)
    refine gives_boxA_load rowCm _ rfl w1.heap.size (cmA q1 0 0 exC) (cmA_size _ _ _ _) rfl (fun V hV => hV) ?_
    go_simp
    refine hK _ ?_
    clear hK K
    refine walk_done rfl rfl (fun K hK => ?_)
    refine done_call0 _ _ rfl 9 rfl (enters_of Try.func9 (by kernel_rfl) rfl) ?_
    refine (example_any _).mono ?_
    rintro e z1 ⟨rfl, l1⟩
    have hx := XB.out.keep (l1.block _ XB.out.lt)
    have PB1 := Lib.hid (PB.out.mono l1)
    refine ⟨_, rfl, hx, ?_⟩
    clear l1 hx
    go_simp
    refine hK _ _ ?_
    clear hK K
    refine walk_done rfl rfl (fun K hK => ?_)
    refine done_call2 _ _ _ _ rfl 18 rfl _ _ rfl rfl (enters_of Try.func18 (by kernel_rfl) rfl) ?_
    refine (refSame_ex q1).mono ?_
    rintro e z2 ⟨rfl, l2⟩
    have P2 := Lib.hid (PB1.out.mono l2)
    refine ⟨_, rfl, P2.out.box (i := 0) rfl, ?_⟩
    clear l2 PB PB1 XB
    go_simp
    refine hK _ _ ?_
    clear hK K
    refine walk_float rfl rfl (fun K hK => ?_)
    refine gives_not2 _ _ rfl true false rfl rfl ?_
    go_simp
    refine hK _ ?_
    clear hK K
    refine walk_float rfl rfl (fun K hK => ?_)
    refine gives_pickF _ _ _ rfl rfl (.bool false) rfl ?_
    go_simp
    refine hK _ ?_
    clear hK K
    refine walk_nil ?_
    go_wp2
    go_ret
    exact ⟨rfl, P2.out.low⟩
  · have f1 : decide ((16384 : Int) < (n : Int)) = false := by simpa using hl
    have f2 : decide (16384 < n) = false := by simp; omega
    have HN := Lib.hid (show n ≤ 140737488351232 by omega)
    have HN1 := Lib.hid (show n ≤ 100000 by omega)
    have CC := Lib.hid (fun (W : World) (hW : BytesAt W q n g) => Copy_row q n c g HN.out W hW)
    have KC := Lib.hid (fun (C : Nat) (W : World) (hW : BytesAt W q n g) hC => Kept_row q n c C g HN.out W hW hC)
    have HRN := Lib.hid (show rawN (extF n g) n ≤ 140737488351232 by unfold rawN; split <;> omega)
    have HDL := Lib.hid (show ∀ j, j < rawN (extF n g) n → dataF (extF n g) j < 256 from fun j _ => by unfold dataF; exact extF_lt HG.out _)
    clear hl
    cases hi : isC n (extF n g) with
    | false =>
      have HI := Lib.hid hi
      clear hi
      go_enter Try.func4, Try.ntmps4
      go_wp2_with (first
        | (go_at_call 17
           have a1 : Below w.heap.size w (w.alloc (.cells #[.int .u8 1, .int .u8 1, .int .u8 0, .int .u8 2, .int .u8 0, .int .u8 3] 5)) := (Below.refl _ _).alloc (Nat.le_refl _) _
           refine (Decode_ex (c := 6) (ex_blk w).bytesAt (Nat.le_refl _)).mono ?_; rintro e w1 ⟨q1, rfl, l1⟩
           have P1 := Lib.hid (show LwS w [] w1 from ⟨fun {i x} hi => by simp at hi, a1.trans (l1.mono a1.size)⟩)
           clear a1 l1)
        | (with_reducible show wpList _ _ _ (⟨some 3, Op.alloc cmT, _, _, _, _⟩ :: _) _ _
           refine wpList_boxA_new rowCm rfl rfl w1.heap.size rfl ?_
           intro w1a xx ll ss
           have XX := Lib.hid xx
           have LL := Lib.hid ll
           clear xx ll ss)
        | (with_reducible show wpList _ _ _ (⟨_, Op.store cmT (.tmp 3) _, _, _, _, none⟩ :: _) _ _
           refine wpList_boxA_put rowCm rfl _ _ rfl rfl w1.heap.size (cmA q1 0 0 exC) _ (cmA_size _ _ _ _) (cmA_one _ _ _ _) (cmA_size _ _ _ _) rfl rfl XX.out ?_
           intro w2 xx kk ss
           have bb := low_put LL.out (Nat.le_refl _) kk
           have P1b := Lib.hid (P1.out.add rfl LL.out xx kk)
           clear xx kk ss bb XX LL P1))
      refine wp_region_sched [(0, true), (1, true), (2, true), (3, true), (4, false), (5, false), (6, true), (7, true)] (fun V => BoxA V w1.heap.size cmT (cmA q1 0 0 exC)) (by kernel_rfl) (by kernel_rfl) (show BoxA _ w1.heap.size cmT (cmA q1 0 0 exC) from P1b.out.box (i := 0) rfl) ?_
      have XB := Lib.hid (show BoxA w2.drew w1.heap.size cmT (cmA q1 0 0 exC) from P1b.out.box (i := 0) rfl)
      have PB := Lib.hid (show LwS w [(w1.heap.size, cmA q1 0 0 exC)] w2.drew from ⟨fun hi => P1b.out.box hi, P1b.out.low.drew⟩)
      clear P1b
      refine walk_float rfl rfl (fun K hK => ?_)
      refine gives_move _ rfl ?_
      go_simp
      refine hK _ ?_
      clear hK K
      refine walk_float rfl rfl (fun K hK => ?_)
      refine gives_nil_neq _ rfl rfl ?_
      go_simp
      refine hK _ ?_
      clear hK K
      refine walk_float rfl rfl (fun K hK => ?_)
      refine gives_move _ rfl ?_
      go_simp
      refine hK _ ?_
      clear hK K
      refine walk_float rfl rfl (fun K hK => ?_)
      refine gives_boxA_load rowCm _ rfl w1.heap.size (cmA q1 0 0 exC) (cmA_size _ _ _ _) rfl (fun V hV => hV) ?_
      go_simp
      refine hK _ ?_
      clear hK K
      refine walk_done rfl rfl (fun K hK => ?_)
      refine done_call0 _ _ rfl 9 rfl (enters_of Try.func9 (by kernel_rfl) rfl) ?_
      refine (example_any _).mono ?_
      rintro e z1 ⟨rfl, l1⟩
      have hx := XB.out.keep (l1.block _ XB.out.lt)
      have PB1 := Lib.hid (PB.out.mono l1)
      refine ⟨_, rfl, hx, ?_⟩
      clear l1 hx
      go_simp
      refine hK _ _ ?_
      clear hK K
      refine walk_done rfl rfl (fun K hK => ?_)
      refine done_call2 _ _ _ _ rfl 18 rfl _ _ rfl rfl (enters_of Try.func18 (by kernel_rfl) rfl) ?_
      refine (refSame_ex q1).mono ?_
      rintro e z2 ⟨rfl, l2⟩
      have P2 := Lib.hid (PB1.out.mono l2)
      refine ⟨_, rfl, P2.out.box (i := 0) rfl, ?_⟩
      clear l2 PB PB1 XB
      go_simp
      refine hK _ _ ?_
      clear hK K
      refine walk_float rfl rfl (fun K hK => ?_)
      refine gives_not2 _ _ rfl true false rfl rfl ?_
      go_simp
      refine hK _ ?_
      clear hK K
      refine walk_float rfl rfl (fun K hK => ?_)
      refine gives_pickF _ _ _ rfl rfl (.bool false) rfl ?_
      go_simp
      refine hK _ ?_
      clear hK K
      refine walk_nil ?_
      go_wp2_with (first
        | (go_at_call 11
           refine (CC.out _ (HQ.out _ P2.out.low)).mono ?_; rintro e w3 ⟨rfl, b3, l3⟩
           have P3 := Lib.hid (P2.out.mono l3)
           have K3 := Lib.hid b3
           have T3 := Lib.hid P2.out.low.size
           clear b3 l3 P2 CC)
        | (go_at_call 17
           refine (Decode_not (K3.out.bytesAt.low rfl).ext (extF_lt HG.out) (Nat.le_add_right _ _) HI.out).mono ?_; rintro e w4 ⟨rfl, l4⟩
           have P4 := Lib.hid (P3.out.mono l4)
           have K4 := Lib.hid (K3.out.below l4 K3.out.lt)
           clear l4 P3 K3)
        | (with_reducible show wpList _ _ _ (⟨some 6, Op.alloc cmT, _, _, _, _⟩ :: _) _ _
           refine wpList_boxA_new rowCm rfl rfl w4.heap.size rfl ?_
           intro w4a xx ll ss
           have XX := Lib.hid xx
           have LL := Lib.hid ll
           clear xx ll ss)
        | (with_reducible show wpList _ _ _ (⟨_, Op.store cmT (.tmp 6) _, _, _, _, none⟩ :: _) _ _
           refine wpList_boxA_put rowCm rfl _ _ rfl rfl w4.heap.size (cmA none 0 0 zeroCm) _ (cmA_size _ _ _ _) (cmA_one _ _ _ _) (cmA_size _ _ _ _) rfl rfl XX.out ?_
           intro w5 xx kk ss
           have bb := low_put LL.out (Nat.le_refl _) kk
           have P4b := Lib.hid (P4.out.add rfl LL.out xx kk)
           have K4b := Lib.hid (K4.out.below bb K4.out.lt)
           clear xx kk ss bb XX LL P4 K4)
        | (go_at_call 19
           refine (refDecode_not (HQ.out _ P4b.out.low).ext (extF_lt HG.out) HNC.out HN1.out HI.out).mono ?_; rintro e w6 ⟨rfl, l6⟩
           have P6 := Lib.hid (P4b.out.mono l6)
           have K6 := Lib.hid (K4b.out.below l6 K4b.out.lt)
           clear l6 P4b K4b)
        | (with_reducible show wpList _ _ _ (⟨some 8, Op.alloc cmT, _, _, _, _⟩ :: _) _ _
           refine wpList_boxA_new rowCm rfl rfl w6.heap.size rfl ?_
           intro w6a xx ll ss
           have XX := Lib.hid xx
           have LL := Lib.hid ll
           clear xx ll ss)
        | (with_reducible show wpList _ _ _ (⟨_, Op.store cmT (.tmp 8) _, _, _, _, none⟩ :: _) _ _
           refine wpList_boxA_put rowCm rfl _ _ rfl rfl w6.heap.size (cmA none 0 0 zeroCm) _ (cmA_size _ _ _ _) (cmA_one _ _ _ _) (cmA_size _ _ _ _) rfl rfl XX.out ?_
           intro w7 xx kk ss
           have bb := low_put LL.out (Nat.le_refl _) kk
           have P6b := Lib.hid (P6.out.add rfl LL.out xx kk)
           have K6b := Lib.hid (K6.out.below bb K6.out.lt)
           clear xx kk ss bb XX LL P6 K6)
        | (with_reducible show wpList _ _ _ (⟨some 38, Op.load cmT _, _, _, _, _⟩ :: _) _ _
           refine wpList_boxA_loadw rowCm _ rfl rfl w4.heap.size (cmA none 0 0 zeroCm) (cmA_size _ _ _ _) rfl (P6b.out.box (i := 1) rfl) ?_)
        | (with_reducible show wpList _ _ _ (⟨some 39, Op.load cmT _, _, _, _, _⟩ :: _) _ _
           refine wpList_boxA_loadw rowCm _ rfl rfl w6.heap.size (cmA none 0 0 zeroCm) (cmA_size _ _ _ _) rfl (P6b.out.box (i := 0) rfl) ?_)
        | (go_at_call 18
           refine (refSame_eq (g := zeroK) (fun _ h => absurd h (Nat.not_lt_zero _)) (.inl rfl) (.inl rfl)).mono ?_; rintro e w8 ⟨rfl, l8⟩
           have P8 := Lib.hid (P6b.out.mono l8)
           have K8 := Lib.hid (K6b.out.below l8 K6b.out.lt)
           obtain ⟨d0, d1, d2, d3, d4, d10⟩ := boxCm (P8.out.box (i := 1) rfl)
           clear l8 P6b K6b)
        | (go_at_call 14
           refine (Is_err 11 rfl _).mono ?_; rintro e wb ⟨rfl, rfl⟩)
        | (go_at_call 15
           refine (KC.out z2.heap.size _ (HQ.out _ P8.out.low) K8.out).mono ?_; rintro e wc ⟨rfl, rfl⟩; clear KC)
        | (with_reducible show wpList _ _ _ (⟨_, Op.buildSlice 40 _ _, _, _, _, _⟩ :: _) _ _
           refine wpList_lists2 rfl _ _ rfl _ _ _ _ _ _ rfl rfl ?_)
        | (go_at_call 16
           have a7 : Below w8.heap.size w8 (w8.alloc (.cells #[.slice none 0 0, .slice (some ⟨z2.heap.size, 0, none⟩) n (n + 2)] 22)) := (Below.refl _ _).alloc (Nat.le_refl _) _
           refine (Apart_two (z2.heap.size + 1) 0 0 true (fun _ => 0) z2.heap.size n (markF n g) w.heap.size w8.heap.size _ (.inl ⟨rfl, rfl, rfl⟩) (K8.out.below a7 K8.out.lt) HN.out (Nat.succ_ne_self _) T3.out (Nat.le_trans P8.out.low.size a7.size) (by rw [pOf_nil]; exact heap_alloc_new _ _)).mono ?_
           rintro e wd ⟨rfl, ld⟩
           have LD := Lib.hid ((P8.out.low.trans (a7.mono P8.out.low.size)).trans ld)
           clear a7 ld))
      go_ret
      exact ⟨rfl, LD.out⟩

    | true =>
      have HI := Lib.hid hi
      clear hi
      go_enter Try.func4, Try.ntmps4
      go_wp2_with (first
        | (go_at_call 17
           have a1 : Below w.heap.size w (w.alloc (.cells #[.int .u8 1, .int .u8 1, .int .u8 0, .int .u8 2, .int .u8 0, .int .u8 3] 5)) := (Below.refl _ _).alloc (Nat.le_refl _) _
           refine (Decode_ex (c := 6) (ex_blk w).bytesAt (Nat.le_refl _)).mono ?_; rintro e w1 ⟨q1, rfl, l1⟩
           have P1 := Lib.hid (show LwS w [] w1 from ⟨fun {i x} hi => by simp at hi, a1.trans (l1.mono a1.size)⟩)
           clear a1 l1)
        | (with_reducible show wpList _ _ _ (⟨some 3, Op.alloc cmT, _, _, _, _⟩ :: _) _ _
           refine wpList_boxA_new rowCm rfl rfl w1.heap.size rfl ?_
           intro w1a xx ll ss
           have XX := Lib.hid xx
           have LL := Lib.hid ll
           clear xx ll ss)
        | (with_reducible show wpList _ _ _ (⟨_, Op.store cmT (.tmp 3) _, _, _, _, none⟩ :: _) _ _
           refine wpList_boxA_put rowCm rfl _ _ rfl rfl w1.heap.size (cmA q1 0 0 exC) _ (cmA_size _ _ _ _) (cmA_one _ _ _ _) (cmA_size _ _ _ _) rfl rfl XX.out ?_
           intro w2 xx kk ss
           have bb := low_put LL.out (Nat.le_refl _) kk
           have P1b := Lib.hid (P1.out.add rfl LL.out xx kk)
           clear xx kk ss bb XX LL P1))
      refine wp_region_sched [(0, true), (1, true), (2, true), (3, true), (4, false), (5, false), (6, true), (7, true)] (fun V => BoxA V w1.heap.size cmT (cmA q1 0 0 exC)) (by kernel_rfl) (by kernel_rfl) (show BoxA _ w1.heap.size cmT (cmA q1 0 0 exC) from P1b.out.box (i := 0) rfl) ?_
      have XB := Lib.hid (show BoxA w2.drew w1.heap.size cmT (cmA q1 0 0 exC) from P1b.out.box (i := 0) rfl)
      have PB := Lib.hid (show LwS w [(w1.heap.size, cmA q1 0 0 exC)] w2.drew from ⟨fun hi => P1b.out.box hi, P1b.out.low.drew⟩)
      clear P1b
      refine walk_float rfl rfl (fun K hK => ?_)
      refine gives_move _ rfl ?_
      go_simp
      refine hK _ ?_
      clear hK K
      refine walk_float rfl rfl (fun K hK => ?_)
      refine gives_nil_neq _ rfl rfl ?_
      go_simp
      refine hK _ ?_
      clear hK K
      refine walk_float rfl rfl (fun K hK => ?_)
      refine gives_move _ rfl ?_
      go_simp
      refine hK _ ?_
      clear hK K
      refine walk_float rfl rfl (fun K hK => ?_)
      refine gives_boxA_load rowCm _ rfl w1.heap.size (cmA q1 0 0 exC) (cmA_size _ _ _ _) rfl (fun V hV => hV) ?_
      go_simp
      refine hK _ ?_
      clear hK K
      refine walk_done rfl rfl (fun K hK => ?_)
      refine done_call0 _ _ rfl 9 rfl (enters_of Try.func9 (by kernel_rfl) rfl) ?_
      refine (example_any _).mono ?_
      rintro e z1 ⟨rfl, l1⟩
      have hx := XB.out.keep (l1.block _ XB.out.lt)
      have PB1 := Lib.hid (PB.out.mono l1)
      refine ⟨_, rfl, hx, ?_⟩
      clear l1 hx
      go_simp
      refine hK _ _ ?_
      clear hK K
      refine walk_done rfl rfl (fun K hK => ?_)
      refine done_call2 _ _ _ _ rfl 18 rfl _ _ rfl rfl (enters_of Try.func18 (by kernel_rfl) rfl) ?_
      refine (refSame_ex q1).mono ?_
      rintro e z2 ⟨rfl, l2⟩
      have P2 := Lib.hid (PB1.out.mono l2)
      refine ⟨_, rfl, P2.out.box (i := 0) rfl, ?_⟩
      clear l2 PB PB1 XB
      go_simp
      refine hK _ _ ?_
      clear hK K
      refine walk_float rfl rfl (fun K hK => ?_)
      refine gives_not2 _ _ rfl true false rfl rfl ?_
      go_simp
      refine hK _ ?_
      clear hK K
      refine walk_float rfl rfl (fun K hK => ?_)
      refine gives_pickF _ _ _ rfl rfl (.bool false) rfl ?_
      go_simp
      refine hK _ ?_
      clear hK K
      refine walk_nil ?_
      go_wp2_with (first
        | (go_at_call 11
           refine (CC.out _ (HQ.out _ P2.out.low)).mono ?_; rintro e w3 ⟨rfl, b3, l3⟩
           have P3 := Lib.hid (P2.out.mono l3)
           have K3 := Lib.hid b3
           have T3 := Lib.hid P2.out.low.size
           clear b3 l3 P2 CC)
        | (go_at_call 17
           refine (Decode_yes (K3.out.bytesAt.low rfl).ext (extF_lt HG.out) (Nat.le_add_right _ _) HI.out).mono ?_; rintro e w4 ⟨q4, rfl, d4, l4⟩
           obtain ⟨D4, nl4, hq4, hne4, hown4⟩ := d4.own HRN.out z2.heap.size K3.out.lt
           have T34 := P3.out.low.size
           subst hq4
           have P4 := Lib.hid (P3.out.mono l4)
           have K4 := Lib.hid (K3.out.below l4 K3.out.lt)
           have B4 := Lib.hid d4.bytes
           have O4 := Lib.hid (fun V' (hb : Below w4.heap.size w4 V') => hown4 w.heap.size T34 V' hb)
           have NE := Lib.hid hne4
           clear d4 l4 hne4 hown4 T34 P3 K3)
        | (with_reducible show wpList _ _ _ (⟨some 6, Op.alloc cmT, _, _, _, _⟩ :: _) _ _
           refine wpList_boxA_new rowCm rfl rfl w4.heap.size rfl ?_
           intro w4a xx ll ss
           have XX := Lib.hid xx
           have LL := Lib.hid ll
           clear xx ll ss)
        | (with_reducible show wpList _ _ _ (⟨_, Op.store cmT (.tmp 6) _, _, _, _, none⟩ :: _) _ _
           refine wpList_boxA_put rowCm rfl _ _ rfl rfl w4.heap.size (cmA (pOf D4 nl4) (rawN (extF n g) n) (rawN (extF n g) n) (rawC (extF n g))) _ (cmA_size _ _ _ _) (cmA_one _ _ _ _) (cmA_size _ _ _ _) rfl rfl XX.out ?_
           intro w5 xx kk ss
           have bb := low_put LL.out (Nat.le_refl _) kk
           have P4b := Lib.hid (P4.out.add rfl LL.out xx kk)
           have K4b := Lib.hid (K4.out.below bb K4.out.lt)
           have B4b := Lib.hid (B4.out.below bb)
           have O4b := Lib.hid (fun V' (hb : Below w5.heap.size w5 V') => O4.out V' (bb.trans (hb.mono bb.size)))
           clear xx kk ss bb XX LL P4 K4 B4 O4)
        | (go_at_call 19
           refine (refDecode_yes (HQ.out _ P4b.out.low).ext (extF_lt HG.out) HNC.out HN1.out HI.out).mono ?_; rintro e w6 ⟨q6, m6, rfl, b6, l6⟩
           have P6 := Lib.hid (P4b.out.mono l6)
           have K6 := Lib.hid (K4b.out.below l6 K4b.out.lt)
           have B6 := Lib.hid (B4b.out.below l6)
           have R6 := Lib.hid b6
           have O6 := Lib.hid (fun V' (hb : Below w6.heap.size w6 V') => O4b.out V' (l6.trans (hb.mono l6.size)))
           clear b6 l6 P4b K4b B4b O4b)
        | (with_reducible show wpList _ _ _ (⟨some 8, Op.alloc cmT, _, _, _, _⟩ :: _) _ _
           refine wpList_boxA_new rowCm rfl rfl w6.heap.size rfl ?_
           intro w6a xx ll ss
           have XX := Lib.hid xx
           have LL := Lib.hid ll
           clear xx ll ss)
        | (with_reducible show wpList _ _ _ (⟨_, Op.store cmT (.tmp 8) _, _, _, _, none⟩ :: _) _ _
           refine wpList_boxA_put rowCm rfl _ _ rfl rfl w6.heap.size (cmA q6 (rawN (extF n g) n) m6 (rawC (extF n g))) _ (cmA_size _ _ _ _) (cmA_one _ _ _ _) (cmA_size _ _ _ _) rfl rfl XX.out ?_
           intro w7 xx kk ss
           have bb := low_put LL.out (Nat.le_refl _) kk
           have P6b := Lib.hid (P6.out.add rfl LL.out xx kk)
           have K6b := Lib.hid (K6.out.below bb K6.out.lt)
           have B6b := Lib.hid (B6.out.below bb)
           have R6b := Lib.hid (R6.out.below bb)
           have O6b := Lib.hid (fun V' (hb : Below w7.heap.size w7 V') => O6.out V' (bb.trans (hb.mono bb.size)))
           clear xx kk ss bb XX LL P6 K6 B6 R6 O6)
        | (with_reducible show wpList _ _ _ (⟨some 38, Op.load cmT _, _, _, _, _⟩ :: _) _ _
           refine wpList_boxA_loadw rowCm _ rfl rfl w4.heap.size (cmA (pOf D4 nl4) (rawN (extF n g) n) (rawN (extF n g) n) (rawC (extF n g))) (cmA_size _ _ _ _) rfl (P6b.out.box (i := 1) rfl) ?_)
        | (with_reducible show wpList _ _ _ (⟨some 39, Op.load cmT _, _, _, _, _⟩ :: _) _ _
           refine wpList_boxA_loadw rowCm _ rfl rfl w6.heap.size (cmA q6 (rawN (extF n g) n) m6 (rawC (extF n g))) (cmA_size _ _ _ _) rfl (P6b.out.box (i := 0) rfl) ?_)
        | (go_at_call 18
           refine (refSame_eq HDL.out B6b.out R6b.out).mono ?_; rintro e w8 ⟨rfl, l8⟩
           have P8 := Lib.hid (P6b.out.mono l8)
           have K8 := Lib.hid (K6b.out.below l8 K6b.out.lt)
           have O8 := Lib.hid (fun V' (hb : Below w8.heap.size w8 V') => O6b.out V' (l8.trans (hb.mono l8.size)))
           obtain ⟨d0, d1, d2, d3, d4, d10⟩ := boxCm (P8.out.box (i := 1) rfl)
           clear l8 P6b K6b B6b R6b O6b)
        | (go_at_call 15
           refine (KC.out z2.heap.size _ (HQ.out _ P8.out.low) K8.out).mono ?_; rintro e wc ⟨rfl, rfl⟩; clear KC)
        | (with_reducible show wpList _ _ _ (⟨_, Op.buildSlice 40 _ _, _, _, _, _⟩ :: _) _ _
           refine wpList_lists2 rfl _ _ rfl _ _ _ _ _ _ rfl rfl ?_)
        | (go_at_call 16
           have a7 : Below w8.heap.size w8 (w8.alloc (.cells #[.slice (pOf D4 nl4) (rawN (extF n g) n) (rawN (extF n g) n), .slice (some ⟨z2.heap.size, 0, none⟩) n (n + 2)] 22)) := (Below.refl _ _).alloc (Nat.le_refl _) _
           refine (Apart_two D4 (rawN (extF n g) n) (rawN (extF n g) n) nl4 (dataF (extF n g)) z2.heap.size n (markF n g) w.heap.size w8.heap.size _ (O8.out _ a7) (K8.out.below a7 K8.out.lt) HN.out NE.out T3.out (Nat.le_trans P8.out.low.size a7.size) (heap_alloc_new _ _)).mono ?_
           rintro e wd ⟨rfl, ld⟩
           have LD := Lib.hid ((P8.out.low.trans (a7.mono P8.out.low.size)).trans ld)
           clear a7 ld))
      go_ret
      exact ⟨rfl, LD.out⟩

theorem laidOut : laidOutB Try.prog = true := by kernel_rfl
set_option maxRecDepth 100000 in
theorem lifted (os : Os) (started : os.Started) (H : Type) (enc : TypeId × Value → H) :
    ReturnsInHanded {} Try.checked os 4 .any (Rows.cdbDecodesSpec.pre6 enc Try.prog Try.f4 Rows.cdbDecodesRow.domain false) (Rows.cdbDecodesSpec.post enc Try.prog Try.f4 false true false false) := by
  refine returnsInHanded_of_change (C := Try.checked) own started (by kernel_rfl) Try.func4
    (ChangeSpec.witness6 (enc := enc) (C := Try.checked) false ⟨#[], #[.slice none 0 0], []⟩ 8 (by kernel_rfl) (by kernel_rfl) (by kernel_rfl) (by kernel_rfl)) ?_
  intro W base args ds gs before hval0 hW hcnd _
  have hval : ∀ (j : Nat) t v, Try.f4.params[j]? = some t → args[j]? = some v → Value.okWide Try.prog W .any base t v := hval0
  have hW' := hW
  obtain ⟨p, q, hA0, hV, rfl, hfz, hnd⟩ := hW
  have hA : DataW.TrodAll enc Try.prog W 0 (fun _ => true) true Try.f4.params.toList args.toList ds p := hA0
  rw [Try.params4] at hA hval
  obtain ⟨v0, vs0, d0, ds0, p0, q0, hargs, rfl, rfl, h0, r0⟩ := trodAll_cons hA
  obtain ⟨rfl, rfl, rfl⟩ := trodAll_nil r0
  obtain rfl : args = #[v0] := by cases args; simp_all
  obtain ⟨rfl, rfl⟩ := trodVars_none hV
  have k0 := h0
  have lt0 : ∀ x ∈ p0, x.block < W.heap.size := by obtain ⟨m, hm⟩ := k0; exact DataW.trod_lt m _ _ _ hm
  obtain ⟨q0, n0, c0, a0, rfl, w0, y0, l0, m0⟩ := open_byteslice (hval 0 22 v0 rfl rfl) h0
  clear hA0 hval0
  refine (walk q0 n0 c0 a0 w0 y0 l0 m0).mono fun e W' ⟨he, bel⟩ => ?_
  subst he
  exact ⟨_, rfl, _, _, _, [], _, [], hW', trodAll_mk1 (shut_bool Try.underlying4 _), (trodAll_cons_mk (Below.trod laidOut (by kernel_rfl) (of_decide_eq_true (by kernel_rfl)) k0 bel lt0) trodAll_mk0), rfl, bel.frame _, fun h => by cases h⟩

theorem over : Rows.cdbDecodesRow.holds Try.pinned (OpenSpec.ofChange Rows.cdbDecodesSpec) :=
  OpenClaim.holds_of_wide 4 Try.f4 rfl rfl rfl rfl rfl rfl rfl ⟨rfl, rfl, rfl, rfl, rfl⟩ rfl rfl rfl rfl rfl (by kernel_rfl) Try.func4 (by kernel_rfl)
    (of_decide_eq_true (by kernel_rfl)) (by unfold Func.isWrapper; first | (rw [if_pos (by decide +kernel)]; kernel_rfl) | (rw [if_neg (by decide +kernel)]; exact ⟨rfl, rfl⟩))
    (fun os started H enc _ => lifted os started H enc)

theorem proved : Rows.CdbDecodesSaid := over
end cdbDecodes
end Go.Proofs.Ytkibeddfkenlkaa

/- PduEncodes: which bytes every frame has. Condition: package pdu answers as its spec says. -/
import Derived.Test.YtebbnkkhabehmaaPdLw
import Derived.Test.YtebbnkkhabehmaaPdS4
import Derived.Test.YtebbnkkhabehmaaRows
namespace Go.Proofs.Ytebbnkkhabehmaa
open Go.ChangeShapes Go.WideShapes Go.ChangeAt Go.RowKit
namespace pduEncodes
set_option linter.unusedVariables false
set_option linter.unusedSimpArgs false
attribute [local irreducible] frA frT markF mk zeroK numF tenS
attribute [local go_sem] Oper.semAt_some
set_option maxRecDepth 100000 in
set_option maxHeartbeats 16000000 in
theorem walk (PS : PduSpec) {w : World} (k n c : Int) (p : Option Addr) (d cd : Nat) (g : Nat → Nat) (hk : okI k) (hn : okI n) (hc : okI c) (hg : ∀ i, i < d → g i < 256) (hq : BytesAt w p d g) (hdc : d ≤ cd) (hm : cd ≤ maxLen) : Calls Try.prog 3 #[.agg (frA k n c p d cd)] w fun e w' => e = .returned (.bool true) ∧ Below w.heap.size w w' := by
  have HQ := Lib.hid (fun (W : World) (hb : Below w.heap.size w W) => hq.below hb)
  have EX := Lib.hid (fun (W : World) => PS.encode (W := W) 7 0 10 (p := none) (d := 0) (cd := 0) (g := zeroK) ten_in (Nat.le_refl _) (fun j hj => absurd hj (Nat.not_lt_zero _)) (.inl rfl))
  by_cases hl : (16384 : Int) < (d : Int)
  · have f1 : decide ((16384 : Int) < (d : Int)) = true := by simp [hl]
    have f2 : decide (16384 < d) = true := by simp; omega
    clear hl HQ hg hq hdc hm hk hn hc PS
    go_enter Try.func3, Try.ntmps3
    go_wp2_with (first
      | (with_reducible show wpList _ _ _ (⟨some 1, Op.box 24 _, _, _, _, none⟩ :: _) _ _
         refine wpList_boxA_of rfl _ rfl (frA k n c p d cd) rfl ?_
         intro w1 x1 l1 s1
         have P1 := Lib.hid (show LwB w [bxO w.heap.size 24 (frA k n c p d cd)] w1 from (LwB.none w).add l1 x1 (Nat.le_refl _))
         clear x1 l1 s1)
      | (with_reducible show wpList _ _ _ (⟨_, Op.build 24 _, _, _, _, none⟩ :: _) _ _
         refine wpList_fr02 rfl rfl ?_)
      | (go_at_call 8
         refine (EX.out _).mono ?_; rintro e w2 ⟨D1, C1, G1, rfl, b2, f2, c2, d2, l2⟩
         have P2 := Lib.hid (P1.out.mono l2)
         have X2 := Lib.hid (b2.bytes c2 f2)
         clear b2 f2 c2 d2 l2 P1 EX))
    have P3 := Lib.hid P2.out.drew
    have X3 := Lib.hid (X2.out.below (Below.refl _ w2).drew)
    clear P2 X2
    refine wp_region_sched [(0, true), (1, true), (2, true), (3, true), (4, true), (5, false), (6, true), (7, true)] (fun V => BytesAt V (some ⟨D1, 0, none⟩) 8 (frT 7 0 10 0 zeroK)) (by kernel_rfl) (by kernel_rfl) X3.out ?_
    refine walk_float rfl rfl (fun K hK => ?_)
    refine gives_move _ rfl ?_
    go_simp
    refine hK _ ?_
    clear hK K
    refine walk_float rfl rfl (fun K hK => ?_)
    refine gives_nil_neq _ rfl rfl ?_
    go_simp
    refine hK _ ?_
    clear hK K
    refine walk_float rfl rfl (fun K hK => ?_)
    refine gives_move _ rfl ?_
    go_simp
    refine hK _ ?_
    clear hK K
    refine walk_float rfl rfl (fun K hK => ?_)
    refine gives_move _ rfl ?_
    go_simp
    refine hK _ ?_
    clear hK K
    refine walk_float rfl rfl (fun K hK => ?_)
    refine gives_string _ rfl (some ⟨D1, 0, none⟩) 8 C1 rfl (frT 7 0 10 0 zeroK) (fun V hV => hV) ?_
    rw [ten_str]
    go_simp
    refine hK _ ?_
    clear hK K
    refine walk_done rfl rfl (fun K hK => ?_)
    refine done_call0 _ _ rfl 9 rfl (enters_of Try.func9 (by kernel_rfl) rfl) ?_
    refine (ten_any _).mono ?_
    rintro e w4 ⟨rfl, l4⟩
    have P4 := Lib.hid (P3.out.mono l4)
    refine ⟨_, rfl, X3.out.below l4, ?_⟩
    clear l4 P3 X3
    go_simp
    refine hK _ _ ?_
    clear hK K
    refine walk_float rfl rfl (fun K hK => ?_)
    refine gives_str_same _ _ rfl tenS rfl rfl ?_
    go_simp
    refine hK _ ?_
    clear hK K
    refine walk_float rfl rfl (fun K hK => ?_)
    refine gives_pickF _ _ _ rfl rfl (.bool false) rfl ?_
    go_simp
    refine hK _ ?_
    clear hK K
    refine walk_nil ?_
    obtain ⟨d0, d1, d2, d3⟩ := boxFr (P4.out.bx (i := 0) rfl)
    go_wp2
    go_ret
    exact ⟨rfl, P4.out.low⟩
  · have f1 : decide ((16384 : Int) < (d : Int)) = false := by simpa using hl
    have f2 : decide (16384 < d) = false := by simp; omega
    have HD := Lib.hid (show d ≤ 16384 by omega)
    have CC := Lib.hid (fun (W : World) (hW : BytesAt W p d g) => Copy_row p d cd g (by omega) W hW)
    have KC := Lib.hid (fun (C : Nat) (W : World) (hW : BytesAt W p d g) hC => Kept_row p d cd C g (by omega) W hW hC)
    by_cases hin : inF k n c d
    · have HIN := Lib.hid hin
      have EN := Lib.hid (fun (W : World) (q : Option Addr) (e : Nat) (h1 : d ≤ e) (h2 : BytesAt W q d g) => PS.encode (W := W) k n c hin h1 hg h2)
      clear hl hin hg hq hdc hm hk hn hc PS
      go_enter Try.func3, Try.ntmps3
      go_wp2_with (first
        | (with_reducible show wpList _ _ _ (⟨some 1, Op.box 24 _, _, _, _, none⟩ :: _) _ _
           refine wpList_boxA_of rfl _ rfl (frA k n c p d cd) rfl ?_
           intro w1 x1 l1 s1
           have P1 := Lib.hid (show LwB w [bxO w.heap.size 24 (frA k n c p d cd)] w1 from (LwB.none w).add l1 x1 (Nat.le_refl _))
           clear x1 l1 s1)
        | (with_reducible show wpList _ _ _ (⟨_, Op.build 24 _, _, _, _, none⟩ :: _) _ _
           refine wpList_fr02 rfl rfl ?_)
        | (go_at_call 8
           refine (EX.out _).mono ?_; rintro e w2 ⟨D1, C1, G1, rfl, b2, f2, c2, d2, l2⟩
           have P2 := Lib.hid (P1.out.mono l2)
           have X2 := Lib.hid (b2.bytes c2 f2)
           clear b2 f2 c2 d2 l2 P1 EX))
      have P3 := Lib.hid P2.out.drew
      have X3 := Lib.hid (X2.out.below (Below.refl _ w2).drew)
      clear P2 X2
      refine wp_region_sched [(0, true), (1, true), (2, true), (3, true), (4, true), (5, false), (6, true), (7, true)] (fun V => BytesAt V (some ⟨D1, 0, none⟩) 8 (frT 7 0 10 0 zeroK)) (by kernel_rfl) (by kernel_rfl) X3.out ?_
      refine walk_float rfl rfl (fun K hK => ?_)
      refine gives_move _ rfl ?_
      go_simp
      refine hK _ ?_
      clear hK K
      refine walk_float rfl rfl (fun K hK => ?_)
      refine gives_nil_neq _ rfl rfl ?_
      go_simp
      refine hK _ ?_
      clear hK K
      refine walk_float rfl rfl (fun K hK => ?_)
      refine gives_move _ rfl ?_
      go_simp
      refine hK _ ?_
      clear hK K
      refine walk_float rfl rfl (fun K hK => ?_)
      refine gives_move _ rfl ?_
      go_simp
      refine hK _ ?_
      clear hK K
      refine walk_float rfl rfl (fun K hK => ?_)
      refine gives_string _ rfl (some ⟨D1, 0, none⟩) 8 C1 rfl (frT 7 0 10 0 zeroK) (fun V hV => hV) ?_
      rw [ten_str]
      go_simp
      refine hK _ ?_
      clear hK K
      refine walk_done rfl rfl (fun K hK => ?_)
      refine done_call0 _ _ rfl 9 rfl (enters_of Try.func9 (by kernel_rfl) rfl) ?_
      refine (ten_any _).mono ?_
      rintro e w4 ⟨rfl, l4⟩
      have P4 := Lib.hid (P3.out.mono l4)
      refine ⟨_, rfl, X3.out.below l4, ?_⟩
      clear l4 P3 X3
      go_simp
      refine hK _ _ ?_
      clear hK K
      refine walk_float rfl rfl (fun K hK => ?_)
      refine gives_str_same _ _ rfl tenS rfl rfl ?_
      go_simp
      refine hK _ ?_
      clear hK K
      refine walk_float rfl rfl (fun K hK => ?_)
      refine gives_pickF _ _ _ rfl rfl (.bool false) rfl ?_
      go_simp
      refine hK _ ?_
      clear hK K
      refine walk_nil ?_
      obtain ⟨d0, d1, d2, d3⟩ := boxFr (P4.out.bx (i := 0) rfl)
      go_wp2_with (first
        | (with_reducible show wpList _ _ _ (⟨some 27, Op.load 24 _, _, _, _, _⟩ :: _) _ _
           refine wpList_boxA_loadw rowFr _ rfl rfl w.heap.size (frA k n c p d cd) (frA_size _ _ _ _ _ _) rfl (P4.out.bx (i := 0) rfl) ?_)
        | (with_reducible show wpList _ _ _ (⟨some 5, Op.alloc 24, _, _, _, _⟩ :: _) _ _
           refine wpList_boxA_new rowFr rfl rfl _ rfl ?_
           intro w5 x5 l5 s5
           have P5 := Lib.hid (show LwB w [bxO w4.heap.size 24 (frA 0 0 0 none 0 0), bxO w.heap.size 24 (frA k n c p d cd)] w5 from P4.out.add l5 x5 (Nat.le_refl _))
           clear x5 l5 s5 P4 d0 d1 d2 d3
           generalize w4.heap.size = J at *)
        | (with_reducible show wpList _ _ _ (⟨_, Op.store 24 _ _, _, _, _, none⟩ :: _) _ _
           refine wpList_boxA_put rowFr rfl _ _ rfl rfl J (frA k n c p d cd) _ (frA_size _ _ _ _ _ _) (frA_one _ _ _ _ _ _) (frA_size _ _ _ _ _ _) rfl rfl (P5.out.bx (i := 0) rfl) ?_
           intro w6 x6 k6 s6
           have P6 := Lib.hid (show LwB w [bxO J 24 (frA k n c p d cd), bxO w.heap.size 24 (frA k n c p d cd)] w6 from P5.out.put 0 rfl x6 k6)
           obtain ⟨d0, d1, d2, d3⟩ := boxFr (P6.out.bx (i := 1) rfl)
           clear x6 k6 s6 P5)
        | (go_at_call 10
           refine (CC.out _ (HQ.out _ P6.out.low)).mono ?_; rintro e w7 ⟨rfl, b7, l7⟩
           have P7 := Lib.hid (P6.out.mono l7)
           have K7 := Lib.hid b7
           have T7 := Lib.hid (show w.heap.size ≤ w6.heap.size ∧ J < w6.heap.size from ⟨P6.out.low.size, P6.out.lt (i := 0) rfl⟩)
           clear b7 l7 P6 CC d0 d1 d2 d3
           generalize w6.heap.size = KB at *)
        | (with_reducible show wpList _ _ _ (⟨_, Op.store 22 _ _, _, _, _, none⟩ :: _) _ _
           refine wpList_boxA_bytes rfl _ _ rfl rfl J (frA k n c p d cd) 3 (some ⟨KB, 0, none⟩) d (d + 2) rfl rfl (P7.out.bx (i := 0) rfl) (by simp [frA_size]) ?_
           intro w8 x8 k8 s8
           rw [frA_set] at x8
           have P8 := Lib.hid (show LwB w [bxO J 24 (frA k n c (some ⟨KB, 0, none⟩) d (d + 2)), bxO w.heap.size 24 (frA k n c p d cd)] w8 from P7.out.put 0 rfl x8 k8)
           have K8 := Lib.hid (show IntBlk w8 KB .u8 5 (mk (d + 2) (markF d g)) from (k8.block _ K7.out.lt (fun e => by have := T7.out.2; omega)).trans K7.out)
           clear x8 k8 s8 P7 K7)
        | (with_reducible show wpList _ _ _ (⟨some 33, Op.load 24 _, _, _, _, _⟩ :: _) _ _
           refine wpList_boxA_loadw rowFr _ rfl rfl J (frA k n c (some ⟨KB, 0, none⟩) d (d + 2)) (frA_size _ _ _ _ _ _) rfl (P8.out.bx (i := 0) rfl) ?_)
        | (go_at_call 8
           refine (EN.out w8 (some ⟨KB, 0, none⟩) (d + 2) (Nat.le_add_right _ _) (K8.out.bytesAt.low rfl)).mono ?_; rintro e w9 ⟨D, C, F, rfl, b9, f9, c9, t9, l9⟩
           have P9 := Lib.hid (P8.out.mono l9)
           have K9 := Lib.hid (K8.out.below l9 K8.out.lt)
           have B9 := Lib.hid b9
           have F9 := Lib.hid f9
           have C9 := Lib.hid c9
           have N9 := Lib.hid (show KB < D from Nat.lt_of_lt_of_le K8.out.lt t9)
           clear b9 f9 c9 t9 l9 P8 K8)
        | (with_reducible show wpList _ _ _ (⟨some 38, Op.load 24 _, _, _, _, _⟩ :: _) _ _
           refine wpList_boxA_loadw rowFr _ rfl rfl w.heap.size (frA k n c p d cd) (frA_size _ _ _ _ _ _) rfl (P9.out.bx (i := 1) rfl) ?_)
        | (go_at_call 11
           refine (refEncode_ok k n c (cd := cd) HIN.out (HQ.out _ P9.out.low)).mono ?_; rintro e wa ⟨pa, ca, rfl, ba, la⟩
           have PA := Lib.hid (P9.out.mono la)
           have KA := Lib.hid (K9.out.below la K9.out.lt)
           have BA := Lib.hid (B9.out.below la B9.out.lt)
           have RA := Lib.hid ba
           obtain ⟨c0, c1, c2, c3⟩ := boxFr (PA.out.bx (i := 1) rfl)
           obtain ⟨d0, d1, d2, d3⟩ := boxFr (PA.out.bx (i := 0) rfl)
           clear ba la P9 K9 B9)
        | (go_at_call 12
           refine (Same_true (some ⟨D, 0, none⟩) (8 + d) C pa ca (frT k n c d g) (frT k n c d g) (fun _ _ => rfl) _ (BA.out.bytes C9.out F9.out) RA.out).mono ?_
           rintro e wb ⟨rfl, rfl⟩
           clear RA)
        | (go_at_call 14
           refine (KC.out KB _ (HQ.out _ PA.out.low) KA.out).mono ?_; rintro e wc ⟨rfl, rfl⟩; clear KC)
        | (with_reducible show wpList _ _ _ (⟨_, Op.buildSlice 37 _ _, _, _, _, _⟩ :: _) _ _
           refine wpList_lists2 rfl _ _ rfl _ _ _ _ _ _ rfl rfl ?_)
        | (go_at_call 15
           have a7 : Below wa.heap.size wa (wa.alloc (.cells #[.slice (some ⟨D, 0, none⟩) (8 + d) C, .slice (some ⟨KB, 0, none⟩) d (d + 2)] 22)) := (Below.refl _ _).alloc (Nat.le_refl _) _
           obtain ⟨R, hR, hI⟩ := BA.out.below a7 BA.out.lt
           refine (Apart_two D (8 + d) C false F KB d (markF d g) w.heap.size wa.heap.size _ (.inr ⟨rfl, Nat.le_trans T7.out.1 (Nat.le_of_lt N9.out), C9.out, by have := HD.out; omega, R, hR, hI⟩) (KA.out.below a7 KA.out.lt) (by have := HD.out; omega) (Nat.ne_of_gt N9.out) T7.out.1 (Nat.le_trans PA.out.low.size a7.size) (heap_alloc_new _ _)).mono ?_
           rintro e wd ⟨rfl, ld⟩
           have LD := Lib.hid ((PA.out.low.trans (a7.mono PA.out.low.size)).trans ld)
           clear a7 ld))
      go_ret
      exact ⟨rfl, LD.out⟩
    · have HIN := Lib.hid hin
      have EN := Lib.hid (fun (W : World) (q : Option Addr) (e : Nat) (h1 : d ≤ d + 2) => PS.refuse (W := W) k n c q d (d + 2) hk hn hc h1 (by unfold maxLen; omega) hin)
      clear hl hin hg hq hdc hm hk hn hc PS
      go_enter Try.func3, Try.ntmps3
      go_wp2_with (first
        | (with_reducible show wpList _ _ _ (⟨some 1, Op.box 24 _, _, _, _, none⟩ :: _) _ _
           refine wpList_boxA_of rfl _ rfl (frA k n c p d cd) rfl ?_
           intro w1 x1 l1 s1
           have P1 := Lib.hid (show LwB w [bxO w.heap.size 24 (frA k n c p d cd)] w1 from (LwB.none w).add l1 x1 (Nat.le_refl _))
           clear x1 l1 s1)
        | (with_reducible show wpList _ _ _ (⟨_, Op.build 24 _, _, _, _, none⟩ :: _) _ _
           refine wpList_fr02 rfl rfl ?_)
        | (go_at_call 8
           refine (EX.out _).mono ?_; rintro e w2 ⟨D1, C1, G1, rfl, b2, f2, c2, d2, l2⟩
           have P2 := Lib.hid (P1.out.mono l2)
           have X2 := Lib.hid (b2.bytes c2 f2)
           clear b2 f2 c2 d2 l2 P1 EX))
      have P3 := Lib.hid P2.out.drew
      have X3 := Lib.hid (X2.out.below (Below.refl _ w2).drew)
      clear P2 X2
      refine wp_region_sched [(0, true), (1, true), (2, true), (3, true), (4, true), (5, false), (6, true), (7, true)] (fun V => BytesAt V (some ⟨D1, 0, none⟩) 8 (frT 7 0 10 0 zeroK)) (by kernel_rfl) (by kernel_rfl) X3.out ?_
      refine walk_float rfl rfl (fun K hK => ?_)
      refine gives_move _ rfl ?_
      go_simp
      refine hK _ ?_
      clear hK K
      refine walk_float rfl rfl (fun K hK => ?_)
      refine gives_nil_neq _ rfl rfl ?_
      go_simp
      refine hK _ ?_
      clear hK K
      refine walk_float rfl rfl (fun K hK => ?_)
      refine gives_move _ rfl ?_
      go_simp
      refine hK _ ?_
      clear hK K
      refine walk_float rfl rfl (fun K hK => ?_)
      refine gives_move _ rfl ?_
      go_simp
      refine hK _ ?_
      clear hK K
      refine walk_float rfl rfl (fun K hK => ?_)
      refine gives_string _ rfl (some ⟨D1, 0, none⟩) 8 C1 rfl (frT 7 0 10 0 zeroK) (fun V hV => hV) ?_
      rw [ten_str]
      go_simp
      refine hK _ ?_
      clear hK K
      refine walk_done rfl rfl (fun K hK => ?_)
      refine done_call0 _ _ rfl 9 rfl (enters_of Try.func9 (by kernel_rfl) rfl) ?_
      refine (ten_any _).mono ?_
      rintro e w4 ⟨rfl, l4⟩
      have P4 := Lib.hid (P3.out.mono l4)
      refine ⟨_, rfl, X3.out.below l4, ?_⟩
      clear l4 P3 X3
      go_simp
      refine hK _ _ ?_
      clear hK K
      refine walk_float rfl rfl (fun K hK => ?_)
      refine gives_str_same _ _ rfl tenS rfl rfl ?_
      go_simp
      refine hK _ ?_
      clear hK K
      refine walk_float rfl rfl (fun K hK => ?_)
      refine gives_pickF _ _ _ rfl rfl (.bool false) rfl ?_
      go_simp
      refine hK _ ?_
      clear hK K
      refine walk_nil ?_
      obtain ⟨d0, d1, d2, d3⟩ := boxFr (P4.out.bx (i := 0) rfl)
      go_wp2_with (first
        | (with_reducible show wpList _ _ _ (⟨some 27, Op.load 24 _, _, _, _, _⟩ :: _) _ _
           refine wpList_boxA_loadw rowFr _ rfl rfl w.heap.size (frA k n c p d cd) (frA_size _ _ _ _ _ _) rfl (P4.out.bx (i := 0) rfl) ?_)
        | (with_reducible show wpList _ _ _ (⟨some 5, Op.alloc 24, _, _, _, _⟩ :: _) _ _
           refine wpList_boxA_new rowFr rfl rfl _ rfl ?_
           intro w5 x5 l5 s5
           have P5 := Lib.hid (show LwB w [bxO w4.heap.size 24 (frA 0 0 0 none 0 0), bxO w.heap.size 24 (frA k n c p d cd)] w5 from P4.out.add l5 x5 (Nat.le_refl _))
           clear x5 l5 s5 P4 d0 d1 d2 d3
           generalize w4.heap.size = J at *)
        | (with_reducible show wpList _ _ _ (⟨_, Op.store 24 _ _, _, _, _, none⟩ :: _) _ _
           refine wpList_boxA_put rowFr rfl _ _ rfl rfl J (frA k n c p d cd) _ (frA_size _ _ _ _ _ _) (frA_one _ _ _ _ _ _) (frA_size _ _ _ _ _ _) rfl rfl (P5.out.bx (i := 0) rfl) ?_
           intro w6 x6 k6 s6
           have P6 := Lib.hid (show LwB w [bxO J 24 (frA k n c p d cd), bxO w.heap.size 24 (frA k n c p d cd)] w6 from P5.out.put 0 rfl x6 k6)
           obtain ⟨d0, d1, d2, d3⟩ := boxFr (P6.out.bx (i := 1) rfl)
           clear x6 k6 s6 P5)
        | (go_at_call 10
           refine (CC.out _ (HQ.out _ P6.out.low)).mono ?_; rintro e w7 ⟨rfl, b7, l7⟩
           have P7 := Lib.hid (P6.out.mono l7)
           have K7 := Lib.hid b7
           have T7 := Lib.hid (show w.heap.size ≤ w6.heap.size ∧ J < w6.heap.size from ⟨P6.out.low.size, P6.out.lt (i := 0) rfl⟩)
           clear b7 l7 P6 CC d0 d1 d2 d3
           generalize w6.heap.size = KB at *)
        | (with_reducible show wpList _ _ _ (⟨_, Op.store 22 _ _, _, _, _, none⟩ :: _) _ _
           refine wpList_boxA_bytes rfl _ _ rfl rfl J (frA k n c p d cd) 3 (some ⟨KB, 0, none⟩) d (d + 2) rfl rfl (P7.out.bx (i := 0) rfl) (by simp [frA_size]) ?_
           intro w8 x8 k8 s8
           rw [frA_set] at x8
           have P8 := Lib.hid (show LwB w [bxO J 24 (frA k n c (some ⟨KB, 0, none⟩) d (d + 2)), bxO w.heap.size 24 (frA k n c p d cd)] w8 from P7.out.put 0 rfl x8 k8)
           have K8 := Lib.hid (show IntBlk w8 KB .u8 5 (mk (d + 2) (markF d g)) from (k8.block _ K7.out.lt (fun e => by have := T7.out.2; omega)).trans K7.out)
           clear x8 k8 s8 P7 K7)
        | (with_reducible show wpList _ _ _ (⟨some 33, Op.load 24 _, _, _, _, _⟩ :: _) _ _
           refine wpList_boxA_loadw rowFr _ rfl rfl J (frA k n c (some ⟨KB, 0, none⟩) d (d + 2)) (frA_size _ _ _ _ _ _) rfl (P8.out.bx (i := 0) rfl) ?_)
        | (go_at_call 8
           refine (EN.out w8 (some ⟨KB, 0, none⟩) (d + 2) (Nat.le_add_right _ _)).mono ?_; rintro e w9 ⟨rfl, l9⟩
           have P9 := Lib.hid (P8.out.mono l9)
           have K9 := Lib.hid (K8.out.below l9 K8.out.lt)
           clear l9 P8 K8)
        | (with_reducible show wpList _ _ _ (⟨some 38, Op.load 24 _, _, _, _, _⟩ :: _) _ _
           refine wpList_boxA_loadw rowFr _ rfl rfl w.heap.size (frA k n c p d cd) (frA_size _ _ _ _ _ _) rfl (P9.out.bx (i := 1) rfl) ?_)
        | (go_at_call 11
           refine (refEncode_no k n c p d cd HIN.out).mono ?_; rintro e wa ⟨rfl, la⟩
           have PA := Lib.hid (P9.out.mono la)
           have KA := Lib.hid (K9.out.below la K9.out.lt)
           obtain ⟨c0, c1, c2, c3⟩ := boxFr (PA.out.bx (i := 1) rfl)
           obtain ⟨d0, d1, d2, d3⟩ := boxFr (PA.out.bx (i := 0) rfl)
           clear la P9 K9)
        | (go_at_call 12
           refine (Same_true none 0 0 none 0 zeroK zeroK (fun _ _ => rfl) _ (.inl rfl) (.inl rfl)).mono ?_; rintro e wb ⟨rfl, rfl⟩)
        | (go_at_call 13
           refine (Is_err 10 rfl _).mono ?_; rintro e wb ⟨rfl, rfl⟩)
        | (go_at_call 14
           refine (KC.out KB _ (HQ.out _ PA.out.low) KA.out).mono ?_; rintro e wc ⟨rfl, rfl⟩; clear KC)
        | (with_reducible show wpList _ _ _ (⟨_, Op.buildSlice 37 _ _, _, _, _, _⟩ :: _) _ _
           refine wpList_lists2 rfl _ _ rfl _ _ _ _ _ _ rfl rfl ?_)
        | (go_at_call 15
           have a7 : Below wa.heap.size wa (wa.alloc (.cells #[.slice none 0 0, .slice (some ⟨KB, 0, none⟩) d (d + 2)] 22)) := (Below.refl _ _).alloc (Nat.le_refl _) _
           refine (Apart_two (KB + 1) 0 0 true (fun _ => 0) KB d (markF d g) w.heap.size wa.heap.size _ (.inl ⟨rfl, rfl, rfl⟩) (KA.out.below a7 KA.out.lt) (by have := HD.out; omega) (Nat.succ_ne_self _) T7.out.1 (Nat.le_trans PA.out.low.size a7.size) (heap_alloc_new _ _)).mono ?_
           rintro e wd ⟨rfl, ld⟩
           have LD := Lib.hid ((PA.out.low.trans (a7.mono PA.out.low.size)).trans ld)
           clear a7 ld))
      go_ret
      exact ⟨rfl, LD.out⟩
theorem own : ownKnob Try.prog.godebug = none := by kernel_rfl
theorem laidOut : laidOutB Try.prog = true := by kernel_rfl
set_option maxRecDepth 100000 in
theorem lifted (os : Os) (started : os.Started) (H : Type) (enc : TypeId × Value → H) :
    ReturnsInHanded {} Try.checked os 3 .any (Rows.pduEncodesSpec.pre6 enc Try.prog Try.f3 Rows.pduEncodesRow.domain false) (Rows.pduEncodesSpec.post enc Try.prog Try.f3 false true false false) := by
  refine returnsInHanded_of_change (C := Try.checked) own started (by kernel_rfl) Try.func3
    (ChangeSpec.witness6 (enc := enc) (C := Try.checked) false ⟨#[], #[.agg #[.int .i64 0, .int .i64 0, .int .i64 0, .slice none 0 0]], []⟩ 8 (by kernel_rfl) (by kernel_rfl) (by kernel_rfl) (by kernel_rfl)) ?_
  intro W base args ds gs before hval0 hW hcnd _
  have hval : ∀ (j : Nat) t v, Try.f3.params[j]? = some t → args[j]? = some v → Value.okWide Try.prog W .any base t v := hval0
  have hW' := hW
  obtain ⟨p, q, hA0, hV, rfl, hfz, hnd⟩ := hW
  have hA : DataW.TrodAll enc Try.prog W 0 (fun _ => true) true Try.f3.params.toList args.toList ds p := hA0
  rw [Try.params3] at hA hval
  obtain ⟨v0, vs0, d0, ds0, p0, q0, hargs, rfl, rfl, h0, r0⟩ := trodAll_cons hA
  obtain ⟨rfl, rfl, rfl⟩ := trodAll_nil r0
  obtain rfl : args = #[v0] := by cases args; simp_all
  obtain ⟨rfl, rfl⟩ := trodVars_none hV
  have k0 := h0
  have lt0 : ∀ x ∈ p0, x.block < W.heap.size := by obtain ⟨m, hm⟩ := k0; exact DataW.trod_lt m _ _ _ hm
  obtain ⟨f0, rfl, ok0⟩ := open_frame (hval 0 24 v0 rfl rfl) h0
  clear hA0 hval0
  refine (walk pduSpec f0.k f0.n f0.c f0.p f0.d f0.cd f0.g ok0.k ok0.n ok0.c ok0.b ok0.at_ ok0.l ok0.m).mono fun e W' ⟨he, bel⟩ => ?_
  subst he
  exact ⟨_, rfl, _, _, _, [], _, [], hW', trodAll_mk1 (shut_bool Try.underlying4 _), (trodAll_cons_mk (Below.trod laidOut (by kernel_rfl) (of_decide_eq_true (by kernel_rfl)) k0 bel lt0) trodAll_mk0), rfl, bel.frame _, fun h => by cases h⟩

theorem over : Rows.pduEncodesRow.holds Try.pinned (OpenSpec.ofChange Rows.pduEncodesSpec) :=
  OpenClaim.holds_of_wide 3 Try.f3 rfl rfl rfl rfl rfl rfl rfl ⟨rfl, rfl, rfl, rfl, rfl⟩ rfl rfl rfl rfl rfl (by kernel_rfl) Try.func3 (by kernel_rfl)
    (of_decide_eq_true (by kernel_rfl)) (by unfold Func.isWrapper; first | (rw [if_pos (by decide +kernel)]; kernel_rfl) | (rw [if_neg (by decide +kernel)]; exact ⟨rfl, rfl⟩))
    (fun os started H enc _ => lifted os started H enc)

theorem proved : Rows.PduEncodesSaid := over
end pduEncodes
end Go.Proofs.Ytebbnkkhabehmaa

/- PduDecodes: which frame any bytes are. Condition: package pdu answers as its spec says. -/
import Derived.Test.YtebbnkkhabehmaaPdStr
import Derived.Test.YtebbnkkhabehmaaPdS4
import Derived.Test.YtebbnkkhabehmaaRows
namespace Go.Proofs.Ytebbnkkhabehmaa
open Go.ChangeShapes Go.WideShapes Go.ChangeAt Go.RowKit
namespace pduDecodes
set_option linter.unusedVariables false
set_option linter.unusedSimpArgs false
theorem pOf_nil (D : Nat) : pOf D true = none := rfl
attribute [local irreducible] frA frT markF mk zeroK numF tenS pOf kF nF cF gF
attribute [local go_sem] Oper.semAt_some
theorem ex_is : isF 8 (frT 7 0 10 0 zeroK) := isF_frT ten_in
theorem ex_dec (PS : PduSpec) (c B : Nat) (W : World) (hc : 8 ≤ c) (h : BytesAt W (some ⟨B, 0, none⟩) 8 (frT 7 0 10 0 zeroK)) : Calls Try.prog 16 #[.slice (some ⟨B, 0, none⟩) 8 c] W fun e W' => ∃ q C, e = .returned (.tuple #[.agg (frA 7 0 10 q 0 C), .nilIface]) ∧ Below W.heap.size W W' := by
  refine (PS.decode hc (frT_lt ten_in (fun j hj => absurd hj (Nat.not_lt_zero _))) h ex_is).mono ?_
  rintro e W' ⟨q, C, rfl, _, l⟩
  rw [say_k ten_in, say_n ten_in, say_c ten_in]
  exact ⟨q, C, rfl, l⟩
set_option maxRecDepth 100000 in
set_option maxHeartbeats 16000000 in
theorem walk (PS : PduSpec) {w : World} (p : Option Addr) (n c : Nat) (G : Nat → Nat) (hg : ∀ i, i < n → G i < 256) (hq : BytesAt w p n G) (hnc : n ≤ c) (hc : c ≤ maxLen) : Calls Try.prog 4 #[.slice p n c] w fun e w' => e = .returned (.bool true) ∧ Below w.heap.size w w' := by
  have HQ := Lib.hid (fun (W : World) (hb : Below w.heap.size w W) => hq.below hb)
  have EX := Lib.hid (fun (c B : Nat) (W : World) => ex_dec PS c B W)
  by_cases hl : (16384 : Int) < (n : Int)
  · have f1 : decide ((16384 : Int) < (n : Int)) = true := by simp [hl]
    have f2 : decide (16384 < n) = true := by simp; omega
    clear hl HQ hg hq hnc hc PS
    go_enter Try.func4, Try.ntmps4
    go_wp2_with (first
      | (go_at_call 9
         refine (ten_any _).mono ?_; rintro e w0 ⟨rfl, l0⟩
         have L0 := Lib.hid l0
         clear l0)
      | (with_reducible show wpList _ _ _ (⟨some 12, Op.convert _ _ _, _, _, _, _⟩ :: _) _ _
         refine wpList_ten rfl _ rfl rfl ?_
         intro c0 w1 hc1 b1 l1
         have B1 := Lib.hid b1
         have C1 := Lib.hid hc1
         have L1 := Lib.hid (L0.out.trans (l1.mono L0.out.size))
         clear b1 hc1 l1 L0)
      | (go_at_call 16
         refine (EX.out c0 w0.heap.size w1 C1.out B1.out).mono ?_; rintro e w2 ⟨q2, m2, rfl, l2⟩
         have P2 := Lib.hid ((LwB.none w).mono (L1.out.trans (l2.mono L1.out.size)))
         clear l2 B1 C1 L1 EX)
      | (with_reducible show wpList _ _ _ (⟨some 3, Op.alloc 24, _, _, _, _⟩ :: _) _ _
         refine wpList_boxA_new rowFr rfl rfl _ rfl ?_
         intro w2a xx ll ss
         have XX := Lib.hid xx
         have LL := Lib.hid ll
         clear xx ll ss)
      | (with_reducible show wpList _ _ _ (⟨_, Op.store 24 (.tmp 3) _, _, _, _, none⟩ :: _) _ _
         refine wpList_boxA_put rowFr rfl _ _ rfl rfl w2.heap.size (frA 7 0 10 q2 0 m2) _ (frA_size _ _ _ _ _ _) (frA_one _ _ _ _ _ _) (frA_size _ _ _ _ _ _) rfl rfl XX.out ?_
         intro w3 xx kk ss
         have bb := low_put LL.out (Nat.le_refl _) kk
         have P2b := Lib.hid (P2.out.add bb xx (Nat.le_refl _))
         obtain ⟨z0, z1, z2, z3⟩ := boxFr xx
         clear xx kk ss bb XX LL P2))
    go_ret
    exact ⟨rfl, P2b.out.low⟩
  · have f1 : decide ((16384 : Int) < (n : Int)) = false := by simpa using hl
    have f2 : decide (16384 < n) = false := by simp; omega
    have HN := Lib.hid (show n ≤ 16384 by omega)
    have HNC := Lib.hid hnc
    have HG := Lib.hid hg
    have CC := Lib.hid (fun (W : World) (hW : BytesAt W p n G) => Copy_row p n c G (by omega) W hW)
    have KC := Lib.hid (fun (C : Nat) (W : World) (hW : BytesAt W p n G) hC => Kept_row p n c C G (by omega) W hW hC)
    by_cases hi : isF n G
    · have HI := Lib.hid hi
      have DE := Lib.hid (fun (W : World) (q : Option Addr) (e : Nat) (h1 : n ≤ e) (h2 : BytesAt W q n G) => PS.decode (W := W) h1 hg h2 hi)
      clear hl hi hg hq hnc hc PS
      go_enter Try.func4, Try.ntmps4
      go_wp2_with (first
        | (go_at_call 9
           refine (ten_any _).mono ?_; rintro e w0 ⟨rfl, l0⟩
           have L0 := Lib.hid l0
           clear l0)
        | (with_reducible show wpList _ _ _ (⟨some 12, Op.convert _ _ _, _, _, _, _⟩ :: _) _ _
           refine wpList_ten rfl _ rfl rfl ?_
           intro c0 w1 hc1 b1 l1
           have B1 := Lib.hid b1
           have C1 := Lib.hid hc1
           have L1 := Lib.hid (L0.out.trans (l1.mono L0.out.size))
           clear b1 hc1 l1 L0)
        | (go_at_call 16
           refine (EX.out c0 w0.heap.size w1 C1.out B1.out).mono ?_; rintro e w2 ⟨q2, m2, rfl, l2⟩
           have P2 := Lib.hid ((LwB.none w).mono (L1.out.trans (l2.mono L1.out.size)))
           clear l2 B1 C1 L1 EX)
        | (with_reducible show wpList _ _ _ (⟨some 3, Op.alloc 24, _, _, _, _⟩ :: _) _ _
           refine wpList_boxA_new rowFr rfl rfl _ rfl ?_
           intro w2a xx ll ss
           have XX := Lib.hid xx
           have LL := Lib.hid ll
           clear xx ll ss)
        | (with_reducible show wpList _ _ _ (⟨_, Op.store 24 (.tmp 3) _, _, _, _, none⟩ :: _) _ _
           refine wpList_boxA_put rowFr rfl _ _ rfl rfl w2.heap.size (frA 7 0 10 q2 0 m2) _ (frA_size _ _ _ _ _ _) (frA_one _ _ _ _ _ _) (frA_size _ _ _ _ _ _) rfl rfl XX.out ?_
           intro w3 xx kk ss
           have bb := low_put LL.out (Nat.le_refl _) kk
           have P2b := Lib.hid (P2.out.add bb xx (Nat.le_refl _))
           obtain ⟨z0, z1, z2, z3⟩ := boxFr xx
           clear xx kk ss bb XX LL P2)
        | (go_at_call 10
           refine (CC.out _ (HQ.out _ P2b.out.low)).mono ?_; rintro e w4 ⟨rfl, b4, l4⟩
           have P4 := Lib.hid (P2b.out.mono l4)
           have K4 := Lib.hid b4
           have T4 := Lib.hid P2b.out.low.size
           have U4 := Lib.hid (Below.refl w4.heap.size w4)
           clear b4 l4 P2b CC z0 z1 z2 z3
           generalize w3.heap.size = KB at *)
        | (go_at_call 16
           refine (DE.out w4 (some ⟨KB, 0, none⟩) (n + 2) (Nat.le_add_right _ _) (K4.out.bytesAt.low rfl)).mono ?_; rintro e w5 ⟨q5, m5, rfl, d5, l5⟩
           obtain ⟨D5, nl5, F5, hq5, hne5, hown5⟩ := d5.own KB K4.out.lt (by have := HN.out; omega)
           subst hq5
           have P5 := Lib.hid (P4.out.mono l5)
           have U5 := Lib.hid (U4.out.trans (l5.mono U4.out.size))
           have V5 := Lib.hid (Below.refl w5.heap.size w5)
           have B5 := Lib.hid d5.bytes
           have N5 := Lib.hid hne5
           have O5 := Lib.hid (fun (T : Nat) (W' : World) (h : T ≤ w4.heap.size) (hb : Below w5.heap.size w5 W') => hown5 T W' h hb)
           clear d5 l5 hne5 hown5 P4 U4)
        | (with_reducible show wpList _ _ _ (⟨some 6, Op.alloc 24, _, _, _, _⟩ :: _) _ _
           refine wpList_boxA_new rowFr rfl rfl _ rfl ?_
           intro w5a xx ll ss
           have XX := Lib.hid xx
           have LL := Lib.hid ll
           clear xx ll ss)
        | (with_reducible show wpList _ _ _ (⟨_, Op.store 24 (.tmp 6) _, _, _, _, none⟩ :: _) _ _
           refine wpList_boxA_put rowFr rfl _ _ rfl rfl w5.heap.size (frA (kF G) (nF G) (cF G) (pOf D5 nl5) (n - 8) m5) _ (frA_size _ _ _ _ _ _) (frA_one _ _ _ _ _ _) (frA_size _ _ _ _ _ _) rfl rfl XX.out ?_
           intro w6 xx kk ss
           have bb := low_put LL.out (Nat.le_refl _) kk
           have P5b := Lib.hid (P5.out.add bb xx (Nat.le_refl _))
           have U6 := Lib.hid (U5.out.trans (bb.mono U5.out.size))
           have V6 := Lib.hid (V5.out.trans (bb.mono V5.out.size))
           clear xx kk ss bb XX LL P5 U5 V5)
        | (go_at_call 17
           refine (refDecode_ok (HQ.out _ P5b.out.low) HG.out HNC.out (by have := HN.out; omega) HI.out).mono ?_; rintro e w7 ⟨q7, m7, rfl, b7, l7⟩
           have P7 := Lib.hid (P5b.out.mono l7)
           have U7 := Lib.hid (U6.out.trans (l7.mono U6.out.size))
           have V7 := Lib.hid (V6.out.trans (l7.mono V6.out.size))
           have X7 := Lib.hid (Below.refl w7.heap.size w7)
           have R7 := Lib.hid b7
           clear b7 l7 P5b U6 V6)
        | (with_reducible show wpList _ _ _ (⟨some 8, Op.alloc 24, _, _, _, _⟩ :: _) _ _
           refine wpList_boxA_new rowFr rfl rfl _ rfl ?_
           intro w7a xx ll ss
           have XX := Lib.hid xx
           have LL := Lib.hid ll
           clear xx ll ss)
        | (with_reducible show wpList _ _ _ (⟨_, Op.store 24 (.tmp 8) _, _, _, _, none⟩ :: _) _ _
           refine wpList_boxA_put rowFr rfl _ _ rfl rfl w7.heap.size (frA (kF G) (nF G) (cF G) q7 (n - 8) m7) _ (frA_size _ _ _ _ _ _) (frA_one _ _ _ _ _ _) (frA_size _ _ _ _ _ _) rfl rfl XX.out ?_
           intro w8 xx kk ss
           have bb := low_put LL.out (Nat.le_refl _) kk
           have P7b := Lib.hid (P7.out.add bb xx (Nat.le_refl _))
           have U8 := Lib.hid (U7.out.trans (bb.mono U7.out.size))
           have V8 := Lib.hid (V7.out.trans (bb.mono V7.out.size))
           have X8 := Lib.hid (X7.out.trans (bb.mono X7.out.size))
           clear xx kk ss bb XX LL P7 U7 V7 X7)
        | (with_reducible show wpList _ _ _ (⟨some 43, Op.load 24 _, _, _, _, _⟩ :: _) _ _
           refine wpList_boxA_loadw rowFr _ rfl rfl w5.heap.size (frA (kF G) (nF G) (cF G) (pOf D5 nl5) (n - 8) m5) (frA_size _ _ _ _ _ _) rfl (P7b.out.bx (i := 1) rfl) ?_)
        | (with_reducible show wpList _ _ _ (⟨some 44, Op.load 24 _, _, _, _, _⟩ :: _) _ _
           refine wpList_boxA_loadw rowFr _ rfl rfl w7.heap.size (frA (kF G) (nF G) (cF G) q7 (n - 8) m7) (frA_size _ _ _ _ _ _) rfl (P7b.out.bx (i := 0) rfl) ?_)
        | (go_at_call 18
           refine (refSame_yes _ _ _ (fun _ _ => rfl) (B5.out.below V8.out) (R7.out.below X8.out)).mono ?_; rintro e w9 ⟨rfl, l9⟩
           have P9 := Lib.hid (P7b.out.mono l9)
           have U9 := Lib.hid (U8.out.trans (l9.mono U8.out.size))
           have V9 := Lib.hid (V8.out.trans (l9.mono V8.out.size))
           obtain ⟨z0, z1, z2, z3⟩ := boxFr (P9.out.bx (i := 1) rfl)
           clear l9 P7b U8 V8 X8 R7)
        | (go_at_call 14
           refine (KC.out KB _ (HQ.out _ P9.out.low) (K4.out.below U9.out K4.out.lt)).mono ?_; rintro e wc ⟨rfl, rfl⟩; clear KC)
        | (with_reducible show wpList _ _ _ (⟨_, Op.buildSlice 37 _ _, _, _, _, _⟩ :: _) _ _
           refine wpList_lists2 rfl _ _ rfl _ _ _ _ _ _ rfl rfl ?_)
        | (go_at_call 15
           have a7 : Below w9.heap.size w9 (w9.alloc (.cells #[.slice (pOf D5 nl5) (n - 8) m5, .slice (some ⟨KB, 0, none⟩) n (n + 2)] 22)) := (Below.refl _ _).alloc (Nat.le_refl _) _
           refine (Apart_two D5 (n - 8) m5 nl5 F5 KB n (markF n G) w.heap.size w9.heap.size _ (O5.out w.heap.size _ (Nat.le_trans T4.out (Nat.le_of_lt K4.out.lt)) (V9.out.trans (a7.mono V9.out.size))) ((K4.out.below U9.out K4.out.lt).below a7 (K4.out.below U9.out K4.out.lt).lt) (by have := HN.out; omega) N5.out T4.out (Nat.le_trans P9.out.low.size a7.size) (heap_alloc_new _ _)).mono ?_
           rintro e wd ⟨rfl, ld⟩
           have LD := Lib.hid ((P9.out.low.trans (a7.mono P9.out.low.size)).trans ld)
           clear a7 ld))
      go_ret
      exact ⟨rfl, LD.out⟩
    · have HI := Lib.hid hi
      have DE := Lib.hid (fun (W : World) (q : Option Addr) (e : Nat) (h1 : n ≤ e) (h2 : BytesAt W q n G) => PS.reject (W := W) h1 (by omega) hg h2 hi)
      clear hl hi hg hq hnc hc PS
      go_enter Try.func4, Try.ntmps4
      go_wp2_with (first
        | (go_at_call 9
           refine (ten_any _).mono ?_; rintro e w0 ⟨rfl, l0⟩
           have L0 := Lib.hid l0
           clear l0)
        | (with_reducible show wpList _ _ _ (⟨some 12, Op.convert _ _ _, _, _, _, _⟩ :: _) _ _
           refine wpList_ten rfl _ rfl rfl ?_
           intro c0 w1 hc1 b1 l1
           have B1 := Lib.hid b1
           have C1 := Lib.hid hc1
           have L1 := Lib.hid (L0.out.trans (l1.mono L0.out.size))
           clear b1 hc1 l1 L0)
        | (go_at_call 16
           refine (EX.out c0 w0.heap.size w1 C1.out B1.out).mono ?_; rintro e w2 ⟨q2, m2, rfl, l2⟩
           have P2 := Lib.hid ((LwB.none w).mono (L1.out.trans (l2.mono L1.out.size)))
           clear l2 B1 C1 L1 EX)
        | (with_reducible show wpList _ _ _ (⟨some 3, Op.alloc 24, _, _, _, _⟩ :: _) _ _
           refine wpList_boxA_new rowFr rfl rfl _ rfl ?_
           intro w2a xx ll ss
           have XX := Lib.hid xx
           have LL := Lib.hid ll
           clear xx ll ss)
        | (with_reducible show wpList _ _ _ (⟨_, Op.store 24 (.tmp 3) _, _, _, _, none⟩ :: _) _ _
           refine wpList_boxA_put rowFr rfl _ _ rfl rfl w2.heap.size (frA 7 0 10 q2 0 m2) _ (frA_size _ _ _ _ _ _) (frA_one _ _ _ _ _ _) (frA_size _ _ _ _ _ _) rfl rfl XX.out ?_
           intro w3 xx kk ss
           have bb := low_put LL.out (Nat.le_refl _) kk
           have P2b := Lib.hid (P2.out.add bb xx (Nat.le_refl _))
           obtain ⟨z0, z1, z2, z3⟩ := boxFr xx
           clear xx kk ss bb XX LL P2)
        | (go_at_call 10
           refine (CC.out _ (HQ.out _ P2b.out.low)).mono ?_; rintro e w4 ⟨rfl, b4, l4⟩
           have P4 := Lib.hid (P2b.out.mono l4)
           have K4 := Lib.hid b4
           have T4 := Lib.hid P2b.out.low.size
           have U4 := Lib.hid (Below.refl w4.heap.size w4)
           clear b4 l4 P2b CC z0 z1 z2 z3
           generalize w3.heap.size = KB at *)
        | (go_at_call 16
           refine (DE.out w4 (some ⟨KB, 0, none⟩) (n + 2) (Nat.le_add_right _ _) (K4.out.bytesAt.low rfl)).mono ?_; rintro e w5 ⟨rfl, l5⟩
           have P5 := Lib.hid (P4.out.mono l5)
           have U5 := Lib.hid (U4.out.trans (l5.mono U4.out.size))
           clear l5 P4 U4)
        | (with_reducible show wpList _ _ _ (⟨some 6, Op.alloc 24, _, _, _, _⟩ :: _) _ _
           refine wpList_boxA_new rowFr rfl rfl _ rfl ?_
           intro w5a xx ll ss
           have XX := Lib.hid xx
           have LL := Lib.hid ll
           clear xx ll ss)
        | (with_reducible show wpList _ _ _ (⟨_, Op.store 24 (.tmp 6) _, _, _, _, none⟩ :: _) _ _
           refine wpList_boxA_put rowFr rfl _ _ rfl rfl w5.heap.size (frA 0 0 0 none 0 0) _ (frA_size _ _ _ _ _ _) (frA_one _ _ _ _ _ _) (frA_size _ _ _ _ _ _) rfl rfl XX.out ?_
           intro w6 xx kk ss
           have bb := low_put LL.out (Nat.le_refl _) kk
           have P5b := Lib.hid (P5.out.add bb xx (Nat.le_refl _))
           have U6 := Lib.hid (U5.out.trans (bb.mono U5.out.size))
           clear xx kk ss bb XX LL P5 U5)
        | (go_at_call 17
           refine (refDecode_no (HQ.out _ P5b.out.low) HG.out HNC.out (by have := HN.out; omega) HI.out).mono ?_; rintro e w7 ⟨rfl, l7⟩
           have P7 := Lib.hid (P5b.out.mono l7)
           have U7 := Lib.hid (U6.out.trans (l7.mono U6.out.size))
           clear l7 P5b U6)
        | (with_reducible show wpList _ _ _ (⟨some 8, Op.alloc 24, _, _, _, _⟩ :: _) _ _
           refine wpList_boxA_new rowFr rfl rfl _ rfl ?_
           intro w7a xx ll ss
           have XX := Lib.hid xx
           have LL := Lib.hid ll
           clear xx ll ss)
        | (with_reducible show wpList _ _ _ (⟨_, Op.store 24 (.tmp 8) _, _, _, _, none⟩ :: _) _ _
           refine wpList_boxA_put rowFr rfl _ _ rfl rfl w7.heap.size (frA 0 0 0 none 0 0) _ (frA_size _ _ _ _ _ _) (frA_one _ _ _ _ _ _) (frA_size _ _ _ _ _ _) rfl rfl XX.out ?_
           intro w8 xx kk ss
           have bb := low_put LL.out (Nat.le_refl _) kk
           have P7b := Lib.hid (P7.out.add bb xx (Nat.le_refl _))
           have U8 := Lib.hid (U7.out.trans (bb.mono U7.out.size))
           clear xx kk ss bb XX LL P7 U7)
        | (with_reducible show wpList _ _ _ (⟨some 43, Op.load 24 _, _, _, _, _⟩ :: _) _ _
           refine wpList_boxA_loadw rowFr _ rfl rfl w5.heap.size (frA 0 0 0 none 0 0) (frA_size _ _ _ _ _ _) rfl (P7b.out.bx (i := 1) rfl) ?_)
        | (with_reducible show wpList _ _ _ (⟨some 44, Op.load 24 _, _, _, _, _⟩ :: _) _ _
           refine wpList_boxA_loadw rowFr _ rfl rfl w7.heap.size (frA 0 0 0 none 0 0) (frA_size _ _ _ _ _ _) rfl (P7b.out.bx (i := 0) rfl) ?_)
        | (go_at_call 18
           refine (refSame_yes 0 0 0 (g := zeroK) (g' := zeroK) (fun _ _ => rfl) (.inl rfl) (.inl rfl)).mono ?_; rintro e w9 ⟨rfl, l9⟩
           have P9 := Lib.hid (P7b.out.mono l9)
           have U9 := Lib.hid (U8.out.trans (l9.mono U8.out.size))
           obtain ⟨z0, z1, z2, z3⟩ := boxFr (P9.out.bx (i := 1) rfl)
           clear l9 P7b U8)
        | (go_at_call 13
           refine (Is_err 10 rfl _).mono ?_; rintro e wb ⟨rfl, rfl⟩)
        | (go_at_call 14
           refine (KC.out KB _ (HQ.out _ P9.out.low) (K4.out.below U9.out K4.out.lt)).mono ?_; rintro e wc ⟨rfl, rfl⟩; clear KC)
        | (with_reducible show wpList _ _ _ (⟨_, Op.buildSlice 37 _ _, _, _, _, _⟩ :: _) _ _
           refine wpList_lists2 rfl _ _ rfl _ _ _ _ _ _ rfl rfl ?_)
        | (go_at_call 15
           have a7 : Below w9.heap.size w9 (w9.alloc (.cells #[.slice none 0 0, .slice (some ⟨KB, 0, none⟩) n (n + 2)] 22)) := (Below.refl _ _).alloc (Nat.le_refl _) _
           refine (Apart_two (KB + 1) 0 0 true (fun _ => 0) KB n (markF n G) w.heap.size w9.heap.size _ (.inl ⟨rfl, rfl, rfl⟩) ((K4.out.below U9.out K4.out.lt).below a7 (K4.out.below U9.out K4.out.lt).lt) (by have := HN.out; omega) (Nat.succ_ne_self _) T4.out (Nat.le_trans P9.out.low.size a7.size) (by rw [pOf_nil]; exact heap_alloc_new _ _)).mono ?_
           rintro e wd ⟨rfl, ld⟩
           have LD := Lib.hid ((P9.out.low.trans (a7.mono P9.out.low.size)).trans ld)
           clear a7 ld))
      go_ret
      exact ⟨rfl, LD.out⟩
theorem own : ownKnob Try.prog.godebug = none := by kernel_rfl
theorem laidOut : laidOutB Try.prog = true := by kernel_rfl
set_option maxRecDepth 100000 in
theorem lifted (os : Os) (started : os.Started) (H : Type) (enc : TypeId × Value → H) :
    ReturnsInHanded {} Try.checked os 4 .any (Rows.pduDecodesSpec.pre6 enc Try.prog Try.f4 Rows.pduDecodesRow.domain false) (Rows.pduDecodesSpec.post enc Try.prog Try.f4 false true false false) := by
  refine returnsInHanded_of_change (C := Try.checked) own started (by kernel_rfl) Try.func4
    (ChangeSpec.witness6 (enc := enc) (C := Try.checked) false ⟨#[], #[.slice none 0 0], []⟩ 8 (by kernel_rfl) (by kernel_rfl) (by kernel_rfl) (by kernel_rfl)) ?_
  intro W base args ds gs before hval0 hW hcnd _
  have hval : ∀ (j : Nat) t v, Try.f4.params[j]? = some t → args[j]? = some v → Value.okWide Try.prog W .any base t v := hval0
  have hW' := hW
  obtain ⟨p, q, hA0, hV, rfl, hfz, hnd⟩ := hW
  have hA : DataW.TrodAll enc Try.prog W 0 (fun _ => true) true Try.f4.params.toList args.toList ds p := hA0
  rw [Try.params4] at hA hval
  obtain ⟨v0, vs0, d0, ds0, p0, q0, hargs, rfl, rfl, h0, r0⟩ := trodAll_cons hA
  obtain ⟨rfl, rfl, rfl⟩ := trodAll_nil r0
  obtain rfl : args = #[v0] := by cases args; simp_all
  obtain ⟨rfl, rfl⟩ := trodVars_none hV
  have k0 := h0
  have lt0 : ∀ x ∈ p0, x.block < W.heap.size := by obtain ⟨m, hm⟩ := k0; exact DataW.trod_lt m _ _ _ hm
  obtain ⟨q0, n0, c0, a0, rfl, w0, y0, l0, m0⟩ := open_byteslice (hval 0 22 v0 rfl rfl) h0
  clear hA0 hval0
  refine (walk pduSpec q0 n0 c0 a0 w0 y0 l0 m0).mono fun e W' ⟨he, bel⟩ => ?_
  subst he
  exact ⟨_, rfl, _, _, _, [], _, [], hW', trodAll_mk1 (shut_bool Try.underlying4 _), (trodAll_cons_mk (Below.trod laidOut (by kernel_rfl) (of_decide_eq_true (by kernel_rfl)) k0 bel lt0) trodAll_mk0), rfl, bel.frame _, fun h => by cases h⟩

theorem over : Rows.pduDecodesRow.holds Try.pinned (OpenSpec.ofChange Rows.pduDecodesSpec) :=
  OpenClaim.holds_of_wide 4 Try.f4 rfl rfl rfl rfl rfl rfl rfl ⟨rfl, rfl, rfl, rfl, rfl⟩ rfl rfl rfl rfl rfl (by kernel_rfl) Try.func4 (by kernel_rfl)
    (of_decide_eq_true (by kernel_rfl)) (by unfold Func.isWrapper; first | (rw [if_pos (by decide +kernel)]; kernel_rfl) | (rw [if_neg (by decide +kernel)]; exact ⟨rfl, rfl⟩))
    (fun os started H enc _ => lifted os started H enc)

theorem proved : Rows.PduDecodesSaid := over
end pduDecodes
end Go.Proofs.Ytebbnkkhabehmaa

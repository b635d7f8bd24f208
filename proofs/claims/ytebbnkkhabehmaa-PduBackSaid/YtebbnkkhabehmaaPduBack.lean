/- PduBack: a frame comes back from its bytes, and from no others. Condition: package pdu answers as its spec says. -/
import Derived.Test.YtebbnkkhabehmaaPdBk
import Derived.Test.YtebbnkkhabehmaaPdS4
import Derived.Test.YtebbnkkhabehmaaRows
namespace Go.Proofs.Ytebbnkkhabehmaa
open Go.ChangeShapes Go.WideShapes Go.ChangeAt Go.RowKit
namespace pduBack
set_option linter.unusedVariables false
set_option linter.unusedSimpArgs false
attribute [local irreducible] frA frT markF mk zeroK numF tenS kF nF cF gF oneF
attribute [local go_sem] Oper.semAt_some
set_option maxRecDepth 100000 in
set_option maxHeartbeats 16000000 in
theorem big1 (PS : PduSpec) {w : World} (k n c : Int) (p : Option Addr) (d cd : Nat) (g : Nat → Nat) (pb : Option Addr) (m cb : Nat) (G : Nat → Nat) (hk : okI k) (hn : okI n) (hc : okI c) (hg : ∀ i, i < d → g i < 256) (hq : BytesAt w p d g) (hdc : d ≤ cd) (hm : cd ≤ maxLen) (hG : ∀ i, i < m → G i < 256) (hb : BytesAt w pb m G) (hmb : m ≤ cb) (hcb : cb ≤ maxLen) (hl : 500 < d) : Calls Try.prog 5 #[.agg (frA k n c p d cd), .slice pb m cb] w fun e w' => e = .returned (.bool true) ∧ Below w.heap.size w w' := by
  have EX := Lib.hid (fun (W : World) => PS.encode (W := W) 7 0 10 (p := none) (d := 0) (cd := 0) (g := zeroK) ten_in (Nat.le_refl _) (fun j hj => absurd hj (Nat.not_lt_zero _)) (.inl rfl))
  have f1 : decide ((500 : Int) < (d : Int)) = true := by simp; omega
  have f2 : decide (500 < d) = true := by simp; omega
  clear hl hk hn hc hg hq hdc hm hG hb hmb hcb PS
  go_enter Try.func5, Try.ntmps5
  go_wp2_with (first
    | (with_reducible show wpList _ _ _ (⟨some 2, Op.box 24 _, _, _, _, none⟩ :: _) _ _
       refine wpList_boxA_of rfl _ rfl (frA k n c p d cd) rfl ?_
       intro w1 x1 l1 s1
       have P1 := Lib.hid (show LwB w [bxO w.heap.size 24 (frA k n c p d cd)] w1 from (LwB.none w).add l1 x1 (Nat.le_refl _))
       clear x1 l1 s1)
    | (with_reducible show wpList _ _ _ (⟨_, Op.build 24 _, _, _, _, none⟩ :: _) _ _
       refine wpList_fr02 rfl rfl ?_)
    | (go_at_call 8
       refine (EX.out _).mono ?_; rintro e w2 ⟨D1, C1, G1, rfl, b2, f2, c2, d2, l2⟩
       have P2 := Lib.hid (P1.out.mono l2)
       have X2 := Lib.hid (b2.bytes c2 f2)
       clear b2 f2 c2 d2 l2 P1 EX))
  have P3 := Lib.hid P2.out.drew
  have X3 := Lib.hid (X2.out.below (Below.refl _ w2).drew)
  clear P2 X2
  refine wp_region_sched [(0, true), (1, true), (2, true), (3, true), (4, true), (5, false), (6, true), (7, true)] (fun V => BytesAt V (some ⟨D1, 0, none⟩) 8 (frT 7 0 10 0 zeroK)) (by kernel_rfl) (by kernel_rfl) X3.out ?_
  refine walk_float rfl rfl (fun K hK => ?_)
  refine gives_move _ rfl ?_
  go_simp
  refine hK _ ?_
  clear hK K
  refine walk_float rfl rfl (fun K hK => ?_)
  refine gives_nil_neq _ rfl rfl ?_
  go_simp
  refine hK _ ?_
  clear hK K
  refine walk_float rfl rfl (fun K hK => ?_)
  refine gives_move _ rfl ?_
  go_simp
  refine hK _ ?_
  clear hK K
  refine walk_float rfl rfl (fun K hK => ?_)
  refine gives_move _ rfl ?_
  go_simp
  refine hK _ ?_
  clear hK K
  refine walk_float rfl rfl (fun K hK => ?_)
  refine gives_string _ rfl (some ⟨D1, 0, none⟩) 8 C1 rfl (frT 7 0 10 0 zeroK) (fun V hV => hV) ?_
  rw [ten_str]
  go_simp
  refine hK _ ?_
  clear hK K
  refine walk_done rfl rfl (fun K hK => ?_)
  refine done_call0 _ _ rfl 9 rfl (enters_of Try.func9 (by kernel_rfl) rfl) ?_
  refine (ten_any _).mono ?_
  rintro e w4 ⟨rfl, l4⟩
  have P4 := Lib.hid (P3.out.mono l4)
  refine ⟨_, rfl, X3.out.below l4, ?_⟩
  clear l4 P3 X3
  go_simp
  refine hK _ _ ?_
  clear hK K
  refine walk_float rfl rfl (fun K hK => ?_)
  refine gives_str_same _ _ rfl tenS rfl rfl ?_
  go_simp
  refine hK _ ?_
  clear hK K
  refine walk_float rfl rfl (fun K hK => ?_)
  refine gives_pickF _ _ _ rfl rfl (.bool false) rfl ?_
  go_simp
  refine hK _ ?_
  clear hK K
  refine walk_nil ?_
  obtain ⟨d0, d1, d2, d3⟩ := boxFr (P4.out.bx (i := 0) rfl)
  go_wp2
  go_ret
  exact ⟨rfl, P4.out.low⟩
set_option maxRecDepth 100000 in
set_option maxHeartbeats 16000000 in
theorem big2 (PS : PduSpec) {w : World} (k n c : Int) (p : Option Addr) (d cd : Nat) (g : Nat → Nat) (pb : Option Addr) (m cb : Nat) (G : Nat → Nat) (hk : okI k) (hn : okI n) (hc : okI c) (hg : ∀ i, i < d → g i < 256) (hq : BytesAt w p d g) (hdc : d ≤ cd) (hm : cd ≤ maxLen) (hG : ∀ i, i < m → G i < 256) (hb : BytesAt w pb m G) (hmb : m ≤ cb) (hcb : cb ≤ maxLen) (hl : d ≤ 500) (hl2 : 4096 < m) : Calls Try.prog 5 #[.agg (frA k n c p d cd), .slice pb m cb] w fun e w' => e = .returned (.bool true) ∧ Below w.heap.size w w' := by
  have EX := Lib.hid (fun (W : World) => PS.encode (W := W) 7 0 10 (p := none) (d := 0) (cd := 0) (g := zeroK) ten_in (Nat.le_refl _) (fun j hj => absurd hj (Nat.not_lt_zero _)) (.inl rfl))
  have f1 : decide ((500 : Int) < (d : Int)) = false := by simp; omega
  have f2 : decide (500 < d) = false := by simp; omega
  have f3 : decide ((4096 : Int) < (m : Int)) = true := by simp; omega
  have f4 : decide (4096 < m) = true := by simp; omega
  clear hl hl2 hk hn hc hg hq hdc hm hG hb hmb hcb PS
  go_enter Try.func5, Try.ntmps5
  go_wp2_with (first
    | (with_reducible show wpList _ _ _ (⟨some 2, Op.box 24 _, _, _, _, none⟩ :: _) _ _
       refine wpList_boxA_of rfl _ rfl (frA k n c p d cd) rfl ?_
       intro w1 x1 l1 s1
       have P1 := Lib.hid (show LwB w [bxO w.heap.size 24 (frA k n c p d cd)] w1 from (LwB.none w).add l1 x1 (Nat.le_refl _))
       clear x1 l1 s1)
    | (with_reducible show wpList _ _ _ (⟨_, Op.build 24 _, _, _, _, none⟩ :: _) _ _
       refine wpList_fr02 rfl rfl ?_)
    | (go_at_call 8
       refine (EX.out _).mono ?_; rintro e w2 ⟨D1, C1, G1, rfl, b2, f2, c2, d2, l2⟩
       have P2 := Lib.hid (P1.out.mono l2)
       have X2 := Lib.hid (b2.bytes c2 f2)
       clear b2 f2 c2 d2 l2 P1 EX))
  have P3 := Lib.hid P2.out.drew
  have X3 := Lib.hid (X2.out.below (Below.refl _ w2).drew)
  clear P2 X2
  refine wp_region_sched [(0, true), (1, true), (2, true), (3, true), (4, true), (5, false), (6, true), (7, true)] (fun V => BytesAt V (some ⟨D1, 0, none⟩) 8 (frT 7 0 10 0 zeroK)) (by kernel_rfl) (by kernel_rfl) X3.out ?_
  refine walk_float rfl rfl (fun K hK => ?_)
  refine gives_move _ rfl ?_
  go_simp
  refine hK _ ?_
  clear hK K
  refine walk_float rfl rfl (fun K hK => ?_)
  refine gives_nil_neq _ rfl rfl ?_
  go_simp
  refine hK _ ?_
  clear hK K
  refine walk_float rfl rfl (fun K hK => ?_)
  refine gives_move _ rfl ?_
  go_simp
  refine hK _ ?_
  clear hK K
  refine walk_float rfl rfl (fun K hK => ?_)
  refine gives_move _ rfl ?_
  go_simp
  refine hK _ ?_
  clear hK K
  refine walk_float rfl rfl (fun K hK => ?_)
  refine gives_string _ rfl (some ⟨D1, 0, none⟩) 8 C1 rfl (frT 7 0 10 0 zeroK) (fun V hV => hV) ?_
  rw [ten_str]
  go_simp
  refine hK _ ?_
  clear hK K
  refine walk_done rfl rfl (fun K hK => ?_)
  refine done_call0 _ _ rfl 9 rfl (enters_of Try.func9 (by kernel_rfl) rfl) ?_
  refine (ten_any _).mono ?_
  rintro e w4 ⟨rfl, l4⟩
  have P4 := Lib.hid (P3.out.mono l4)
  refine ⟨_, rfl, X3.out.below l4, ?_⟩
  clear l4 P3 X3
  go_simp
  refine hK _ _ ?_
  clear hK K
  refine walk_float rfl rfl (fun K hK => ?_)
  refine gives_str_same _ _ rfl tenS rfl rfl ?_
  go_simp
  refine hK _ ?_
  clear hK K
  refine walk_float rfl rfl (fun K hK => ?_)
  refine gives_pickF _ _ _ rfl rfl (.bool false) rfl ?_
  go_simp
  refine hK _ ?_
  clear hK K
  refine walk_nil ?_
  obtain ⟨d0, d1, d2, d3⟩ := boxFr (P4.out.bx (i := 0) rfl)
  go_wp2
  go_ret
  exact ⟨rfl, P4.out.low⟩
set_option maxRecDepth 100000 in
set_option maxHeartbeats 16000000 in
theorem go11 (PS : PduSpec) {w : World} (k n c : Int) (p : Option Addr) (d cd : Nat) (g : Nat → Nat) (pb : Option Addr) (m cb : Nat) (G : Nat → Nat) (hk : okI k) (hn : okI n) (hc : okI c) (hg : ∀ i, i < d → g i < 256) (hq : BytesAt w p d g) (hdc : d ≤ cd) (hm : cd ≤ maxLen) (hG : ∀ i, i < m → G i < 256) (hb : BytesAt w pb m G) (hmb : m ≤ cb) (hcb : cb ≤ maxLen) (hl : d ≤ 500) (hl2 : m ≤ 4096) (hi : isF m G) (hin : inF k n c d) : Calls Try.prog 5 #[.agg (frA k n c p d cd), .slice pb m cb] w fun e w' => e = .returned (.bool true) ∧ Below w.heap.size w w' := by
  have EX := Lib.hid (fun (W : World) => PS.encode (W := W) 7 0 10 (p := none) (d := 0) (cd := 0) (g := zeroK) ten_in (Nat.le_refl _) (fun j hj => absurd hj (Nat.not_lt_zero _)) (.inl rfl))
  have f1 : decide ((500 : Int) < (d : Int)) = false := by simp; omega
  have f2 : decide (500 < d) = false := by simp; omega
  have f3 : decide ((4096 : Int) < (m : Int)) = false := by simp; omega
  have f4 : decide (4096 < m) = false := by simp; omega
  have HQ := Lib.hid (fun (W : World) (h : Below w.heap.size w W) => hq.below h)
  have HB := Lib.hid (fun (W : World) (h : Below w.heap.size w W) => hb.below h)
  have HDC := Lib.hid hdc
  have DE := Lib.hid (fun (W : World) (h : BytesAt W pb m G) => PS.decode (W := W) hmb hG h hi)
  have AG := Lib.hid (fun (W : World) (q : Option Addr) (z : Nat) => again_any PS hi hG W q z)
  obtain ⟨M, hM⟩ : ∃ M, M = 8 + d := ⟨_, rfl⟩
  have EN := Lib.hid (fun (W : World) (q : Option Addr) (z : Nat) => enc_any PS hM hin hg W q z)
  have TH := Lib.hid (fun (W : World) (q : Option Addr) (z : Nat) => there_any PS hM hin hg W q z)
  have PR := Lib.hid (fun (W : World) (q : Option Addr) (i z : Nat) => pre_any PS hM hin hg W q i z)
  have MO := Lib.hid (fun (F : Nat → Nat) (hF : ∀ j, j < M → F j = frT k n c d g j) (W : World) (q : Option Addr) (z : Nat) => more_any PS hM hin hg hF W q z)
  have SA := Lib.hid (fun (W : World) (q : Option Addr) (x y : Nat) (h1 : BytesAt W q d g) (h2 : BytesAt W p d g) => PS.same (W := W) k n c (cp := x) (cq := y) hg h1 h2)
  have HM := Lib.hid (show M ≤ 508 by omega)
  clear hM
  clear hl hl2 hi hin hk hn hc hg hq hdc hm hG hb hmb hcb PS
  go_enter Try.func5, Try.ntmps5
  go_wp2_with (first
    | (with_reducible show wpList _ _ _ (⟨some 2, Op.box 24 _, _, _, _, none⟩ :: _) _ _
       refine wpList_boxA_of rfl _ rfl (frA k n c p d cd) rfl ?_
       intro w1 x1 l1 s1
       have P1 := Lib.hid (show LwB w [bxO w.heap.size 24 (frA k n c p d cd)] w1 from (LwB.none w).add l1 x1 (Nat.le_refl _))
       clear x1 l1 s1)
    | (with_reducible show wpList _ _ _ (⟨_, Op.build 24 _, _, _, _, none⟩ :: _) _ _
       refine wpList_fr02 rfl rfl ?_)
    | (go_at_call 8
       refine (EX.out _).mono ?_; rintro e w2 ⟨D1, C1, G1, rfl, b2, f2, c2, d2, l2⟩
       have P2 := Lib.hid (P1.out.mono l2)
       have X2 := Lib.hid (b2.bytes c2 f2)
       clear b2 f2 c2 d2 l2 P1 EX))
  have P3 := Lib.hid P2.out.drew
  have X3 := Lib.hid (X2.out.below (Below.refl _ w2).drew)
  clear P2 X2
  refine wp_region_sched [(0, true), (1, true), (2, true), (3, true), (4, true), (5, false), (6, true), (7, true)] (fun V => BytesAt V (some ⟨D1, 0, none⟩) 8 (frT 7 0 10 0 zeroK)) (by kernel_rfl) (by kernel_rfl) X3.out ?_
  refine walk_float rfl rfl (fun K hK => ?_)
  refine gives_move _ rfl ?_
  go_simp
  refine hK _ ?_
  clear hK K
  refine walk_float rfl rfl (fun K hK => ?_)
  refine gives_nil_neq _ rfl rfl ?_
  go_simp
  refine hK _ ?_
  clear hK K
  refine walk_float rfl rfl (fun K hK => ?_)
  refine gives_move _ rfl ?_
  go_simp
  refine hK _ ?_
  clear hK K
  refine walk_float rfl rfl (fun K hK => ?_)
  refine gives_move _ rfl ?_
  go_simp
  refine hK _ ?_
  clear hK K
  refine walk_float rfl rfl (fun K hK => ?_)
  refine gives_string _ rfl (some ⟨D1, 0, none⟩) 8 C1 rfl (frT 7 0 10 0 zeroK) (fun V hV => hV) ?_
  rw [ten_str]
  go_simp
  refine hK _ ?_
  clear hK K
  refine walk_done rfl rfl (fun K hK => ?_)
  refine done_call0 _ _ rfl 9 rfl (enters_of Try.func9 (by kernel_rfl) rfl) ?_
  refine (ten_any _).mono ?_
  rintro e w4 ⟨rfl, l4⟩
  have P4 := Lib.hid (P3.out.mono l4)
  refine ⟨_, rfl, X3.out.below l4, ?_⟩
  clear l4 P3 X3
  go_simp
  refine hK _ _ ?_
  clear hK K
  refine walk_float rfl rfl (fun K hK => ?_)
  refine gives_str_same _ _ rfl tenS rfl rfl ?_
  go_simp
  refine hK _ ?_
  clear hK K
  refine walk_float rfl rfl (fun K hK => ?_)
  refine gives_pickF _ _ _ rfl rfl (.bool false) rfl ?_
  go_simp
  refine hK _ ?_
  clear hK K
  refine walk_nil ?_
  obtain ⟨d0, d1, d2, d3⟩ := boxFr (P4.out.bx (i := 0) rfl)
  go_wp2_with (first
    | (go_at_call 16
       refine (DE.out w4 (HB.out _ P4.out.low)).mono ?_; rintro e w5 ⟨q5, m5, rfl, b5, l5⟩
       have P5 := Lib.hid (P4.out.mono l5)
       have B5 := Lib.hid b5
       clear b5 l5 P4 d0 d1 d2 d3 DE)
    | (with_reducible show wpList _ _ _ (⟨some 7, Op.alloc 24, _, _, _, _⟩ :: _) _ _
       refine wpList_boxA_new rowFr rfl rfl _ rfl ?_
       intro wq xx ll ss
       have XX := Lib.hid xx
       have LL := Lib.hid ll
       clear xx ll ss)
    | (with_reducible show wpList _ _ _ (⟨_, Op.store 24 (.tmp 7) _, _, _, _, none⟩ :: _) _ _
       refine wpList_boxA_put rowFr rfl _ _ rfl rfl w5.heap.size (frA (kF G) (nF G) (cF G) q5 (m - 8) m5) _ (frA_size _ _ _ _ _ _) (frA_one _ _ _ _ _ _) (frA_size _ _ _ _ _ _) rfl rfl XX.out ?_
       intro w5x xx kk ss
       have bb := low_put LL.out (Nat.le_refl _) kk
       have P6 := Lib.hid (P5.out.add bb xx (Nat.le_refl _))
       have B6 := Lib.hid (show BytesAt w5x q5 (m - 8) (gF G) ∧ m - 8 ≤ m5 from ⟨B5.out.bytes.below bb, B5.out.cap⟩)
       clear B5
       clear xx kk ss bb XX LL P5)
    | (with_reducible show wpList _ _ _ (⟨some 47, Op.load 24 _, _, _, _, _⟩ :: _) _ _
       refine wpList_boxA_loadw rowFr _ rfl rfl w5.heap.size (frA (kF G) (nF G) (cF G) q5 (m - 8) m5) (frA_size _ _ _ _ _ _) rfl (P6.out.bx (i := 0) rfl) ?_)
    | (go_at_call 8
       refine (AG.out w5x q5 m5 B6.out.2 B6.out.1).mono ?_; rintro e w7 ⟨D7, C7, rfl, b7, l7⟩
       have P7 := Lib.hid (P6.out.mono l7)
       have B7 := Lib.hid b7
       clear b7 l7 P6 B6 AG)
    | (go_at_call 12
       refine (Same_true (some ⟨D7, 0, none⟩) m C7 pb cb G G (fun _ _ => rfl) _ B7.out (HB.out _ P7.out.low)).mono ?_
       rintro e w8 ⟨rfl, rfl⟩
       clear B7)
    | (with_reducible show wpList _ _ _ (⟨some 60, Op.load 24 _, _, _, _, _⟩ :: _) _ _
       refine wpList_boxA_loadw rowFr _ rfl rfl w.heap.size (frA k n c p d cd) (frA_size _ _ _ _ _ _) rfl (P7.out.bx (i := 1) rfl) ?_)
    | (go_at_call 8
       refine (EN.out w7 _ _ HDC.out (HQ.out _ P7.out.low)).mono ?_; rintro e w9 ⟨D, C, F, rfl, b9, f9, c9, t9, l9⟩
       have P9 := Lib.hid (P7.out.mono l9)
       have K9 := Lib.hid b9
       have F9 := Lib.hid f9
       have C9 := Lib.hid c9
       have T9 := Lib.hid (Nat.le_trans P7.out.low.size t9)
       clear b9 f9 c9 t9 l9 P7 EN)
    | (go_at_call 16
       refine (TH.out w9 (some ⟨D, 0, none⟩) C C9.out (K9.out.bytes C9.out F9.out)).mono ?_; rintro e wa ⟨qa, ma, rfl, ba, la⟩
       have PA := Lib.hid (P9.out.mono la)
       have KA := Lib.hid (K9.out.below la K9.out.lt)
       have BA := Lib.hid ba
       clear ba la P9 K9 TH)
    | (with_reducible show wpList _ _ _ (⟨some 13, Op.alloc 24, _, _, _, _⟩ :: _) _ _
       refine wpList_boxA_new rowFr rfl rfl _ rfl ?_
       intro wq xx ll ss
       have XX := Lib.hid xx
       have LL := Lib.hid ll
       clear xx ll ss)
    | (with_reducible show wpList _ _ _ (⟨_, Op.store 24 (.tmp 13) _, _, _, _, none⟩ :: _) _ _
       refine wpList_boxA_put rowFr rfl _ _ rfl rfl wa.heap.size (frA k n c qa d ma) _ (frA_size _ _ _ _ _ _) (frA_one _ _ _ _ _ _) (frA_size _ _ _ _ _ _) rfl rfl XX.out ?_
       intro wax xx kk ss
       have bb := low_put LL.out (Nat.le_refl _) kk
       have PB := Lib.hid (PA.out.add bb xx (Nat.le_refl _))
       have KB := Lib.hid (KA.out.below bb KA.out.lt)
       have BB := Lib.hid (BA.out.below bb)
       clear KA BA
       clear xx kk ss bb XX LL PA)
    | (with_reducible show wpList _ _ _ (⟨some 74, Op.load 24 _, _, _, _, _⟩ :: _) _ _
       refine wpList_boxA_loadw rowFr _ rfl rfl wa.heap.size (frA k n c qa d ma) (frA_size _ _ _ _ _ _) rfl (PB.out.bx (i := 0) rfl) ?_)
    | (with_reducible show wpList _ _ _ (⟨some 75, Op.load 24 _, _, _, _, _⟩ :: _) _ _
       refine wpList_boxA_loadw rowFr _ rfl rfl w.heap.size (frA k n c p d cd) (frA_size _ _ _ _ _ _) rfl (PB.out.bx (i := 2) rfl) ?_)
    | (go_at_call 19
       refine (SA.out wax qa ma cd BB.out (HQ.out _ PB.out.low)).mono ?_; rintro e wc ⟨rfl, lc⟩
       have UC := Lib.hid (PB.out.low.trans (lc.mono PB.out.low.size))
       have KC := Lib.hid (KB.out.below lc KB.out.lt)
       clear lc PB KB BB SA))
  go_loopw [81] (fun v V => ∃ i : Nat, i ≤ M ∧ v = .int .i64 i ∧ Below w.heap.size w V ∧ BlkR V D C F) (fun v _ => M - (intOf v).toNat)
  case atStart => exact ⟨0, Nat.zero_le _, rfl, UC.out, KC.out⟩
  case round =>
    obtain ⟨i, hi, rfl, hU, hK⟩ := hrel
    clear UC KC
    have U := Lib.hid hU
    have KK := Lib.hid hK
    clear hU hK
    by_cases hlt : i < M
    · have e1 : (i : Int) < (M : Int) := by omega
      have q1 : IntKind.i64.wrap ((i : Int) + 1) = (i : Int) + 1 := IntWalk.i64_in _ (by have := HM.out; omega)
      go_wp2_with (first
        | (with_reducible show wpList _ _ _ (⟨some 87, Op.slice _ _ _ _ _, _, _, _, _⟩ :: _) _ _
           refine wpList_upto rfl _ _ rfl (some ⟨D, 0, none⟩) M C i i rfl rfl rfl (by have := C9.out; omega) ?_)
        | (go_at_call 16
           refine (PR.out _ (some ⟨D, 0, none⟩) i C hlt (by have := C9.out; omega) (KK.out.bytes (by have := C9.out; omega) (fun j hj => F9.out j (by omega)))).mono ?_; rintro e wd ⟨rfl, ld⟩
           have UD := Lib.hid (U.out.trans (ld.mono U.out.size))
           have KD := Lib.hid (KK.out.below ld KK.out.lt)
           clear ld U KK)
        | (with_reducible show wpList _ _ _ (⟨some 15, Op.alloc 24, _, _, _, _⟩ :: _) _ _
           refine wpList_boxA_new rowFr rfl rfl _ rfl ?_
           intro wq xx ll ss
           have XX := Lib.hid xx
           have LL := Lib.hid ll
           clear xx ll ss)
        | (with_reducible show wpList _ _ _ (⟨_, Op.store 24 (.tmp 15) _, _, _, _, none⟩ :: _) _ _
           refine wpList_boxA_put rowFr rfl _ _ rfl rfl wd.heap.size (frA 0 0 0 none 0 0) _ (frA_size _ _ _ _ _ _) (frA_one _ _ _ _ _ _) (frA_size _ _ _ _ _ _) rfl rfl XX.out ?_
           intro we xx kk ss
           have bb := low_put LL.out (Nat.le_refl _) kk
           have UE := Lib.hid (UD.out.trans (bb.mono UD.out.size))
           have KE := Lib.hid (KD.out.below bb KD.out.lt)
           clear xx kk ss bb XX LL UD KD))
      go_roundw
      case rel => exact ⟨i + 1, by omega, by go_num, UE.out, KE.out⟩
      case measure => simp [intOf]; omega
    · have e1 : ¬ (i : Int) < (M : Int) := by omega
      go_wp2_with (first
        | (with_reducible show wpList _ _ _ (⟨some 96, Op.buildSlice 22 _ _, _, _, _, _⟩ :: _) _ _
           refine wpList_bytes1 rfl _ rfl ((0 : Nat) : Int) rfl ?_
           have ub := Lib.hid ((Below.refl _ _).alloc (Nat.le_refl _) (.cells (cellsOf .u8 [((0 : Nat) : Int)]) 5) |> fun h => U.out.trans (h.mono U.out.size))
           obtain ⟨qf, cf, wf, rf, hf, bf, lf⟩ := run_app1 22 (KK.out.below ((Below.refl _ _).alloc (Nat.le_refl _) (.cells (cellsOf .u8 [((0 : Nat) : Int)]) 5)) KK.out.lt) C9.out (by have := HM.out; omega) _ 1 0 (cell_of_one (heap_alloc_new _ _)) w.heap.size T9.out ub.out.size
           have UF := Lib.hid (ub.out.trans lf)
           have BF := Lib.hid bf
           have HF := Lib.hid hf
           have RF := Lib.hid rf
           clear ub rf hf bf lf)
        | (with_reducible show wpList _ _ _ (⟨some 97, Op.call _, _, _, _, _⟩ :: _) _ _
           refine wpList_append rfl _ _ _ _ rfl _ _ rfl rfl _ _ RF.out ?_
           clear RF U KK)
        | (go_at_call 16
           refine (MO.out F F9.out wf qf cf HF.out BF.out).mono ?_; rintro e wg ⟨rfl, lg⟩
           have UG := Lib.hid (UF.out.trans (lg.mono UF.out.size))
           clear lg UF BF HF)
        | (go_at_call 13
           refine (Is_err 10 rfl _).mono ?_; rintro e wh ⟨rfl, rfl⟩))
      go_ret
      exact ⟨rfl, UG.out⟩
set_option maxRecDepth 100000 in
set_option maxHeartbeats 16000000 in
theorem go10 (PS : PduSpec) {w : World} (k n c : Int) (p : Option Addr) (d cd : Nat) (g : Nat → Nat) (pb : Option Addr) (m cb : Nat) (G : Nat → Nat) (hk : okI k) (hn : okI n) (hc : okI c) (hg : ∀ i, i < d → g i < 256) (hq : BytesAt w p d g) (hdc : d ≤ cd) (hm : cd ≤ maxLen) (hG : ∀ i, i < m → G i < 256) (hb : BytesAt w pb m G) (hmb : m ≤ cb) (hcb : cb ≤ maxLen) (hl : d ≤ 500) (hl2 : m ≤ 4096) (hi : isF m G) (hin : ¬ inF k n c d) : Calls Try.prog 5 #[.agg (frA k n c p d cd), .slice pb m cb] w fun e w' => e = .returned (.bool true) ∧ Below w.heap.size w w' := by
  have EX := Lib.hid (fun (W : World) => PS.encode (W := W) 7 0 10 (p := none) (d := 0) (cd := 0) (g := zeroK) ten_in (Nat.le_refl _) (fun j hj => absurd hj (Nat.not_lt_zero _)) (.inl rfl))
  have f1 : decide ((500 : Int) < (d : Int)) = false := by simp; omega
  have f2 : decide (500 < d) = false := by simp; omega
  have f3 : decide ((4096 : Int) < (m : Int)) = false := by simp; omega
  have f4 : decide (4096 < m) = false := by simp; omega
  have HQ := Lib.hid (fun (W : World) (h : Below w.heap.size w W) => hq.below h)
  have HB := Lib.hid (fun (W : World) (h : Below w.heap.size w W) => hb.below h)
  have HDC := Lib.hid hdc
  have DE := Lib.hid (fun (W : World) (h : BytesAt W pb m G) => PS.decode (W := W) hmb hG h hi)
  have AG := Lib.hid (fun (W : World) (q : Option Addr) (z : Nat) => again_any PS hi hG W q z)
  have EN := Lib.hid (fun (W : World) => PS.refuse (W := W) k n c p d cd hk hn hc hdc hm hin)
  clear hl hl2 hi hin hk hn hc hg hq hdc hm hG hb hmb hcb PS
  go_enter Try.func5, Try.ntmps5
  go_wp2_with (first
    | (with_reducible show wpList _ _ _ (⟨some 2, Op.box 24 _, _, _, _, none⟩ :: _) _ _
       refine wpList_boxA_of rfl _ rfl (frA k n c p d cd) rfl ?_
       intro w1 x1 l1 s1
       have P1 := Lib.hid (show LwB w [bxO w.heap.size 24 (frA k n c p d cd)] w1 from (LwB.none w).add l1 x1 (Nat.le_refl _))
       clear x1 l1 s1)
    | (with_reducible show wpList _ _ _ (⟨_, Op.build 24 _, _, _, _, none⟩ :: _) _ _
       refine wpList_fr02 rfl rfl ?_)
    | (go_at_call 8
       refine (EX.out _).mono ?_; rintro e w2 ⟨D1, C1, G1, rfl, b2, f2, c2, d2, l2⟩
       have P2 := Lib.hid (P1.out.mono l2)
       have X2 := Lib.hid (b2.bytes c2 f2)
       clear b2 f2 c2 d2 l2 P1 EX))
  have P3 := Lib.hid P2.out.drew
  have X3 := Lib.hid (X2.out.below (Below.refl _ w2).drew)
  clear P2 X2
  refine wp_region_sched [(0, true), (1, true), (2, true), (3, true), (4, true), (5, false), (6, true), (7, true)] (fun V => BytesAt V (some ⟨D1, 0, none⟩) 8 (frT 7 0 10 0 zeroK)) (by kernel_rfl) (by kernel_rfl) X3.out ?_
  refine walk_float rfl rfl (fun K hK => ?_)
  refine gives_move _ rfl ?_
  go_simp
  refine hK _ ?_
  clear hK K
  refine walk_float rfl rfl (fun K hK => ?_)
  refine gives_nil_neq _ rfl rfl ?_
  go_simp
  refine hK _ ?_
  clear hK K
  refine walk_float rfl rfl (fun K hK => ?_)
  refine gives_move _ rfl ?_
  go_simp
  refine hK _ ?_
  clear hK K
  refine walk_float rfl rfl (fun K hK => ?_)
  refine gives_move _ rfl ?_
  go_simp
  refine hK _ ?_
  clear hK K
  refine walk_float rfl rfl (fun K hK => ?_)
  refine gives_string _ rfl (some ⟨D1, 0, none⟩) 8 C1 rfl (frT 7 0 10 0 zeroK) (fun V hV => hV) ?_
  rw [ten_str]
  go_simp
  refine hK _ ?_
  clear hK K
  refine walk_done rfl rfl (fun K hK => ?_)
  refine done_call0 _ _ rfl 9 rfl (enters_of Try.func9 (by kernel_rfl) rfl) ?_
  refine (ten_any _).mono ?_
  rintro e w4 ⟨rfl, l4⟩
  have P4 := Lib.hid (P3.out.mono l4)
  refine ⟨_, rfl, X3.out.below l4, ?_⟩
  clear l4 P3 X3
  go_simp
  refine hK _ _ ?_
  clear hK K
  refine walk_float rfl rfl (fun K hK => ?_)
  refine gives_str_same _ _ rfl tenS rfl rfl ?_
  go_simp
  refine hK _ ?_
  clear hK K
  refine walk_float rfl rfl (fun K hK => ?_)
  refine gives_pickF _ _ _ rfl rfl (.bool false) rfl ?_
  go_simp
  refine hK _ ?_
  clear hK K
  refine walk_nil ?_
  obtain ⟨d0, d1, d2, d3⟩ := boxFr (P4.out.bx (i := 0) rfl)
  go_wp2_with (first
    | (go_at_call 16
       refine (DE.out w4 (HB.out _ P4.out.low)).mono ?_; rintro e w5 ⟨q5, m5, rfl, b5, l5⟩
       have P5 := Lib.hid (P4.out.mono l5)
       have B5 := Lib.hid b5
       clear b5 l5 P4 d0 d1 d2 d3 DE)
    | (with_reducible show wpList _ _ _ (⟨some 7, Op.alloc 24, _, _, _, _⟩ :: _) _ _
       refine wpList_boxA_new rowFr rfl rfl _ rfl ?_
       intro wq xx ll ss
       have XX := Lib.hid xx
       have LL := Lib.hid ll
       clear xx ll ss)
    | (with_reducible show wpList _ _ _ (⟨_, Op.store 24 (.tmp 7) _, _, _, _, none⟩ :: _) _ _
       refine wpList_boxA_put rowFr rfl _ _ rfl rfl w5.heap.size (frA (kF G) (nF G) (cF G) q5 (m - 8) m5) _ (frA_size _ _ _ _ _ _) (frA_one _ _ _ _ _ _) (frA_size _ _ _ _ _ _) rfl rfl XX.out ?_
       intro w5x xx kk ss
       have bb := low_put LL.out (Nat.le_refl _) kk
       have P6 := Lib.hid (P5.out.add bb xx (Nat.le_refl _))
       have B6 := Lib.hid (show BytesAt w5x q5 (m - 8) (gF G) ∧ m - 8 ≤ m5 from ⟨B5.out.bytes.below bb, B5.out.cap⟩)
       clear B5
       clear xx kk ss bb XX LL P5)
    | (with_reducible show wpList _ _ _ (⟨some 47, Op.load 24 _, _, _, _, _⟩ :: _) _ _
       refine wpList_boxA_loadw rowFr _ rfl rfl w5.heap.size (frA (kF G) (nF G) (cF G) q5 (m - 8) m5) (frA_size _ _ _ _ _ _) rfl (P6.out.bx (i := 0) rfl) ?_)
    | (go_at_call 8
       refine (AG.out w5x q5 m5 B6.out.2 B6.out.1).mono ?_; rintro e w7 ⟨D7, C7, rfl, b7, l7⟩
       have P7 := Lib.hid (P6.out.mono l7)
       have B7 := Lib.hid b7
       clear b7 l7 P6 B6 AG)
    | (go_at_call 12
       refine (Same_true (some ⟨D7, 0, none⟩) m C7 pb cb G G (fun _ _ => rfl) _ B7.out (HB.out _ P7.out.low)).mono ?_
       rintro e w8 ⟨rfl, rfl⟩
       clear B7)
    | (with_reducible show wpList _ _ _ (⟨some 60, Op.load 24 _, _, _, _, _⟩ :: _) _ _
       refine wpList_boxA_loadw rowFr _ rfl rfl w.heap.size (frA k n c p d cd) (frA_size _ _ _ _ _ _) rfl (P7.out.bx (i := 1) rfl) ?_)
    | (go_at_call 8
       refine (EN.out w7).mono ?_; rintro e w9 ⟨rfl, l9⟩
       have P9 := Lib.hid (P7.out.mono l9)
       clear l9 P7 EN))
  go_ret
  exact ⟨rfl, P9.out.low⟩
set_option maxRecDepth 100000 in
set_option maxHeartbeats 16000000 in
theorem go01 (PS : PduSpec) {w : World} (k n c : Int) (p : Option Addr) (d cd : Nat) (g : Nat → Nat) (pb : Option Addr) (m cb : Nat) (G : Nat → Nat) (hk : okI k) (hn : okI n) (hc : okI c) (hg : ∀ i, i < d → g i < 256) (hq : BytesAt w p d g) (hdc : d ≤ cd) (hm : cd ≤ maxLen) (hG : ∀ i, i < m → G i < 256) (hb : BytesAt w pb m G) (hmb : m ≤ cb) (hcb : cb ≤ maxLen) (hl : d ≤ 500) (hl2 : m ≤ 4096) (hi : ¬ isF m G) (hin : inF k n c d) : Calls Try.prog 5 #[.agg (frA k n c p d cd), .slice pb m cb] w fun e w' => e = .returned (.bool true) ∧ Below w.heap.size w w' := by
  have EX := Lib.hid (fun (W : World) => PS.encode (W := W) 7 0 10 (p := none) (d := 0) (cd := 0) (g := zeroK) ten_in (Nat.le_refl _) (fun j hj => absurd hj (Nat.not_lt_zero _)) (.inl rfl))
  have f1 : decide ((500 : Int) < (d : Int)) = false := by simp; omega
  have f2 : decide (500 < d) = false := by simp; omega
  have f3 : decide ((4096 : Int) < (m : Int)) = false := by simp; omega
  have f4 : decide (4096 < m) = false := by simp; omega
  have HQ := Lib.hid (fun (W : World) (h : Below w.heap.size w W) => hq.below h)
  have HB := Lib.hid (fun (W : World) (h : Below w.heap.size w W) => hb.below h)
  have HDC := Lib.hid hdc
  have DE := Lib.hid (fun (W : World) (h : BytesAt W pb m G) => PS.reject (W := W) hmb (by omega) hG h hi)
  obtain ⟨M, hM⟩ : ∃ M, M = 8 + d := ⟨_, rfl⟩
  have EN := Lib.hid (fun (W : World) (q : Option Addr) (z : Nat) => enc_any PS hM hin hg W q z)
  have TH := Lib.hid (fun (W : World) (q : Option Addr) (z : Nat) => there_any PS hM hin hg W q z)
  have PR := Lib.hid (fun (W : World) (q : Option Addr) (i z : Nat) => pre_any PS hM hin hg W q i z)
  have MO := Lib.hid (fun (F : Nat → Nat) (hF : ∀ j, j < M → F j = frT k n c d g j) (W : World) (q : Option Addr) (z : Nat) => more_any PS hM hin hg hF W q z)
  have SA := Lib.hid (fun (W : World) (q : Option Addr) (x y : Nat) (h1 : BytesAt W q d g) (h2 : BytesAt W p d g) => PS.same (W := W) k n c (cp := x) (cq := y) hg h1 h2)
  have HM := Lib.hid (show M ≤ 508 by omega)
  clear hM
  clear hl hl2 hi hin hk hn hc hg hq hdc hm hG hb hmb hcb PS
  go_enter Try.func5, Try.ntmps5
  go_wp2_with (first
    | (with_reducible show wpList _ _ _ (⟨some 2, Op.box 24 _, _, _, _, none⟩ :: _) _ _
       refine wpList_boxA_of rfl _ rfl (frA k n c p d cd) rfl ?_
       intro w1 x1 l1 s1
       have P1 := Lib.hid (show LwB w [bxO w.heap.size 24 (frA k n c p d cd)] w1 from (LwB.none w).add l1 x1 (Nat.le_refl _))
       clear x1 l1 s1)
    | (with_reducible show wpList _ _ _ (⟨_, Op.build 24 _, _, _, _, none⟩ :: _) _ _
       refine wpList_fr02 rfl rfl ?_)
    | (go_at_call 8
       refine (EX.out _).mono ?_; rintro e w2 ⟨D1, C1, G1, rfl, b2, f2, c2, d2, l2⟩
       have P2 := Lib.hid (P1.out.mono l2)
       have X2 := Lib.hid (b2.bytes c2 f2)
       clear b2 f2 c2 d2 l2 P1 EX))
  have P3 := Lib.hid P2.out.drew
  have X3 := Lib.hid (X2.out.below (Below.refl _ w2).drew)
  clear P2 X2
  refine wp_region_sched [(0, true), (1, true), (2, true), (3, true), (4, true), (5, false), (6, true), (7, true)] (fun V => BytesAt V (some ⟨D1, 0, none⟩) 8 (frT 7 0 10 0 zeroK)) (by kernel_rfl) (by kernel_rfl) X3.out ?_
  refine walk_float rfl rfl (fun K hK => ?_)
  refine gives_move _ rfl ?_
  go_simp
  refine hK _ ?_
  clear hK K
  refine walk_float rfl rfl (fun K hK => ?_)
  refine gives_nil_neq _ rfl rfl ?_
  go_simp
  refine hK _ ?_
  clear hK K
  refine walk_float rfl rfl (fun K hK => ?_)
  refine gives_move _ rfl ?_
  go_simp
  refine hK _ ?_
  clear hK K
  refine walk_float rfl rfl (fun K hK => ?_)
  refine gives_move _ rfl ?_
  go_simp
  refine hK _ ?_
  clear hK K
  refine walk_float rfl rfl (fun K hK => ?_)
  refine gives_string _ rfl (some ⟨D1, 0, none⟩) 8 C1 rfl (frT 7 0 10 0 zeroK) (fun V hV => hV) ?_
  rw [ten_str]
  go_simp
  refine hK _ ?_
  clear hK K
  refine walk_done rfl rfl (fun K hK => ?_)
  refine done_call0 _ _ rfl 9 rfl (enters_of Try.func9 (by kernel_rfl) rfl) ?_
  refine (ten_any _).mono ?_
  rintro e w4 ⟨rfl, l4⟩
  have P4 := Lib.hid (P3.out.mono l4)
  refine ⟨_, rfl, X3.out.below l4, ?_⟩
  clear l4 P3 X3
  go_simp
  refine hK _ _ ?_
  clear hK K
  refine walk_float rfl rfl (fun K hK => ?_)
  refine gives_str_same _ _ rfl tenS rfl rfl ?_
  go_simp
  refine hK _ ?_
  clear hK K
  refine walk_float rfl rfl (fun K hK => ?_)
  refine gives_pickF _ _ _ rfl rfl (.bool false) rfl ?_
  go_simp
  refine hK _ ?_
  clear hK K
  refine walk_nil ?_
  obtain ⟨d0, d1, d2, d3⟩ := boxFr (P4.out.bx (i := 0) rfl)
  go_wp2_with (first
    | (go_at_call 16
       refine (DE.out w4 (HB.out _ P4.out.low)).mono ?_; rintro e w5 ⟨rfl, l5⟩
       have P5 := Lib.hid (P4.out.mono l5)
       clear l5 P4 d0 d1 d2 d3 DE)
    | (with_reducible show wpList _ _ _ (⟨some 7, Op.alloc 24, _, _, _, _⟩ :: _) _ _
       refine wpList_boxA_new rowFr rfl rfl _ rfl ?_
       intro wq xx ll ss
       have XX := Lib.hid xx
       have LL := Lib.hid ll
       clear xx ll ss)
    | (with_reducible show wpList _ _ _ (⟨_, Op.store 24 (.tmp 7) _, _, _, _, none⟩ :: _) _ _
       refine wpList_boxA_put rowFr rfl _ _ rfl rfl w5.heap.size (frA 0 0 0 none 0 0) _ (frA_size _ _ _ _ _ _) (frA_one _ _ _ _ _ _) (frA_size _ _ _ _ _ _) rfl rfl XX.out ?_
       intro w5x xx kk ss
       have bb := low_put LL.out (Nat.le_refl _) kk
       have P7 := Lib.hid (P5.out.add bb xx (Nat.le_refl _))
       clear xx kk ss bb XX LL P5)
    | (with_reducible show wpList _ _ _ (⟨some 60, Op.load 24 _, _, _, _, _⟩ :: _) _ _
       refine wpList_boxA_loadw rowFr _ rfl rfl w.heap.size (frA k n c p d cd) (frA_size _ _ _ _ _ _) rfl (P7.out.bx (i := 1) rfl) ?_)
    | (go_at_call 8
       refine (EN.out w5x _ _ HDC.out (HQ.out _ P7.out.low)).mono ?_; rintro e w9 ⟨D, C, F, rfl, b9, f9, c9, t9, l9⟩
       have P9 := Lib.hid (P7.out.mono l9)
       have K9 := Lib.hid b9
       have F9 := Lib.hid f9
       have C9 := Lib.hid c9
       have T9 := Lib.hid (Nat.le_trans P7.out.low.size t9)
       clear b9 f9 c9 t9 l9 P7 EN)
    | (go_at_call 16
       refine (TH.out w9 (some ⟨D, 0, none⟩) C C9.out (K9.out.bytes C9.out F9.out)).mono ?_; rintro e wa ⟨qa, ma, rfl, ba, la⟩
       have PA := Lib.hid (P9.out.mono la)
       have KA := Lib.hid (K9.out.below la K9.out.lt)
       have BA := Lib.hid ba
       clear ba la P9 K9 TH)
    | (with_reducible show wpList _ _ _ (⟨some 13, Op.alloc 24, _, _, _, _⟩ :: _) _ _
       refine wpList_boxA_new rowFr rfl rfl _ rfl ?_
       intro wq xx ll ss
       have XX := Lib.hid xx
       have LL := Lib.hid ll
       clear xx ll ss)
    | (with_reducible show wpList _ _ _ (⟨_, Op.store 24 (.tmp 13) _, _, _, _, none⟩ :: _) _ _
       refine wpList_boxA_put rowFr rfl _ _ rfl rfl wa.heap.size (frA k n c qa d ma) _ (frA_size _ _ _ _ _ _) (frA_one _ _ _ _ _ _) (frA_size _ _ _ _ _ _) rfl rfl XX.out ?_
       intro wax xx kk ss
       have bb := low_put LL.out (Nat.le_refl _) kk
       have PB := Lib.hid (PA.out.add bb xx (Nat.le_refl _))
       have KB := Lib.hid (KA.out.below bb KA.out.lt)
       have BB := Lib.hid (BA.out.below bb)
       clear KA BA
       clear xx kk ss bb XX LL PA)
    | (with_reducible show wpList _ _ _ (⟨some 74, Op.load 24 _, _, _, _, _⟩ :: _) _ _
       refine wpList_boxA_loadw rowFr _ rfl rfl wa.heap.size (frA k n c qa d ma) (frA_size _ _ _ _ _ _) rfl (PB.out.bx (i := 0) rfl) ?_)
    | (with_reducible show wpList _ _ _ (⟨some 75, Op.load 24 _, _, _, _, _⟩ :: _) _ _
       refine wpList_boxA_loadw rowFr _ rfl rfl w.heap.size (frA k n c p d cd) (frA_size _ _ _ _ _ _) rfl (PB.out.bx (i := 2) rfl) ?_)
    | (go_at_call 19
       refine (SA.out wax qa ma cd BB.out (HQ.out _ PB.out.low)).mono ?_; rintro e wc ⟨rfl, lc⟩
       have UC := Lib.hid (PB.out.low.trans (lc.mono PB.out.low.size))
       have KC := Lib.hid (KB.out.below lc KB.out.lt)
       clear lc PB KB BB SA))
  go_loopw [81] (fun v V => ∃ i : Nat, i ≤ M ∧ v = .int .i64 i ∧ Below w.heap.size w V ∧ BlkR V D C F) (fun v _ => M - (intOf v).toNat)
  case atStart => exact ⟨0, Nat.zero_le _, rfl, UC.out, KC.out⟩
  case round =>
    obtain ⟨i, hi, rfl, hU, hK⟩ := hrel
    clear UC KC
    have U := Lib.hid hU
    have KK := Lib.hid hK
    clear hU hK
    by_cases hlt : i < M
    · have e1 : (i : Int) < (M : Int) := by omega
      have q1 : IntKind.i64.wrap ((i : Int) + 1) = (i : Int) + 1 := IntWalk.i64_in _ (by have := HM.out; omega)
      go_wp2_with (first
        | (with_reducible show wpList _ _ _ (⟨some 87, Op.slice _ _ _ _ _, _, _, _, _⟩ :: _) _ _
           refine wpList_upto rfl _ _ rfl (some ⟨D, 0, none⟩) M C i i rfl rfl rfl (by have := C9.out; omega) ?_)
        | (go_at_call 16
           refine (PR.out _ (some ⟨D, 0, none⟩) i C hlt (by have := C9.out; omega) (KK.out.bytes (by have := C9.out; omega) (fun j hj => F9.out j (by omega)))).mono ?_; rintro e wd ⟨rfl, ld⟩
           have UD := Lib.hid (U.out.trans (ld.mono U.out.size))
           have KD := Lib.hid (KK.out.below ld KK.out.lt)
           clear ld U KK)
        | (with_reducible show wpList _ _ _ (⟨some 15, Op.alloc 24, _, _, _, _⟩ :: _) _ _
           refine wpList_boxA_new rowFr rfl rfl _ rfl ?_
           intro wq xx ll ss
           have XX := Lib.hid xx
           have LL := Lib.hid ll
           clear xx ll ss)
        | (with_reducible show wpList _ _ _ (⟨_, Op.store 24 (.tmp 15) _, _, _, _, none⟩ :: _) _ _
           refine wpList_boxA_put rowFr rfl _ _ rfl rfl wd.heap.size (frA 0 0 0 none 0 0) _ (frA_size _ _ _ _ _ _) (frA_one _ _ _ _ _ _) (frA_size _ _ _ _ _ _) rfl rfl XX.out ?_
           intro we xx kk ss
           have bb := low_put LL.out (Nat.le_refl _) kk
           have UE := Lib.hid (UD.out.trans (bb.mono UD.out.size))
           have KE := Lib.hid (KD.out.below bb KD.out.lt)
           clear xx kk ss bb XX LL UD KD))
      go_roundw
      case rel => exact ⟨i + 1, by omega, by go_num, UE.out, KE.out⟩
      case measure => simp [intOf]; omega
    · have e1 : ¬ (i : Int) < (M : Int) := by omega
      go_wp2_with (first
        | (with_reducible show wpList _ _ _ (⟨some 96, Op.buildSlice 22 _ _, _, _, _, _⟩ :: _) _ _
           refine wpList_bytes1 rfl _ rfl ((0 : Nat) : Int) rfl ?_
           have ub := Lib.hid ((Below.refl _ _).alloc (Nat.le_refl _) (.cells (cellsOf .u8 [((0 : Nat) : Int)]) 5) |> fun h => U.out.trans (h.mono U.out.size))
           obtain ⟨qf, cf, wf, rf, hf, bf, lf⟩ := run_app1 22 (KK.out.below ((Below.refl _ _).alloc (Nat.le_refl _) (.cells (cellsOf .u8 [((0 : Nat) : Int)]) 5)) KK.out.lt) C9.out (by have := HM.out; omega) _ 1 0 (cell_of_one (heap_alloc_new _ _)) w.heap.size T9.out ub.out.size
           have UF := Lib.hid (ub.out.trans lf)
           have BF := Lib.hid bf
           have HF := Lib.hid hf
           have RF := Lib.hid rf
           clear ub rf hf bf lf)
        | (with_reducible show wpList _ _ _ (⟨some 97, Op.call _, _, _, _, _⟩ :: _) _ _
           refine wpList_append rfl _ _ _ _ rfl _ _ rfl rfl _ _ RF.out ?_
           clear RF U KK)
        | (go_at_call 16
           refine (MO.out F F9.out wf qf cf HF.out BF.out).mono ?_; rintro e wg ⟨rfl, lg⟩
           have UG := Lib.hid (UF.out.trans (lg.mono UF.out.size))
           clear lg UF BF HF)
        | (go_at_call 13
           refine (Is_err 10 rfl _).mono ?_; rintro e wh ⟨rfl, rfl⟩))
      go_ret
      exact ⟨rfl, UG.out⟩
set_option maxRecDepth 100000 in
set_option maxHeartbeats 16000000 in
theorem go00 (PS : PduSpec) {w : World} (k n c : Int) (p : Option Addr) (d cd : Nat) (g : Nat → Nat) (pb : Option Addr) (m cb : Nat) (G : Nat → Nat) (hk : okI k) (hn : okI n) (hc : okI c) (hg : ∀ i, i < d → g i < 256) (hq : BytesAt w p d g) (hdc : d ≤ cd) (hm : cd ≤ maxLen) (hG : ∀ i, i < m → G i < 256) (hb : BytesAt w pb m G) (hmb : m ≤ cb) (hcb : cb ≤ maxLen) (hl : d ≤ 500) (hl2 : m ≤ 4096) (hi : ¬ isF m G) (hin : ¬ inF k n c d) : Calls Try.prog 5 #[.agg (frA k n c p d cd), .slice pb m cb] w fun e w' => e = .returned (.bool true) ∧ Below w.heap.size w w' := by
  have EX := Lib.hid (fun (W : World) => PS.encode (W := W) 7 0 10 (p := none) (d := 0) (cd := 0) (g := zeroK) ten_in (Nat.le_refl _) (fun j hj => absurd hj (Nat.not_lt_zero _)) (.inl rfl))
  have f1 : decide ((500 : Int) < (d : Int)) = false := by simp; omega
  have f2 : decide (500 < d) = false := by simp; omega
  have f3 : decide ((4096 : Int) < (m : Int)) = false := by simp; omega
  have f4 : decide (4096 < m) = false := by simp; omega
  have HQ := Lib.hid (fun (W : World) (h : Below w.heap.size w W) => hq.below h)
  have HB := Lib.hid (fun (W : World) (h : Below w.heap.size w W) => hb.below h)
  have HDC := Lib.hid hdc
  have DE := Lib.hid (fun (W : World) (h : BytesAt W pb m G) => PS.reject (W := W) hmb (by omega) hG h hi)
  have EN := Lib.hid (fun (W : World) => PS.refuse (W := W) k n c p d cd hk hn hc hdc hm hin)
  clear hl hl2 hi hin hk hn hc hg hq hdc hm hG hb hmb hcb PS
  go_enter Try.func5, Try.ntmps5
  go_wp2_with (first
    | (with_reducible show wpList _ _ _ (⟨some 2, Op.box 24 _, _, _, _, none⟩ :: _) _ _
       refine wpList_boxA_of rfl _ rfl (frA k n c p d cd) rfl ?_
       intro w1 x1 l1 s1
       have P1 := Lib.hid (show LwB w [bxO w.heap.size 24 (frA k n c p d cd)] w1 from (LwB.none w).add l1 x1 (Nat.le_refl _))
       clear x1 l1 s1)
    | (with_reducible show wpList _ _ _ (⟨_, Op.build 24 _, _, _, _, none⟩ :: _) _ _
       refine wpList_fr02 rfl rfl ?_)
    | (go_at_call 8
       refine (EX.out _).mono ?_; rintro e w2 ⟨D1, C1, G1, rfl, b2, f2, c2, d2, l2⟩
       have P2 := Lib.hid (P1.out.mono l2)
       have X2 := Lib.hid (b2.bytes c2 f2)
       clear b2 f2 c2 d2 l2 P1 EX))
  have P3 := Lib.hid P2.out.drew
  have X3 := Lib.hid (X2.out.below (Below.refl _ w2).drew)
  clear P2 X2
  refine wp_region_sched [(0, true), (1, true), (2, true), (3, true), (4, true), (5, false), (6, true), (7, true)] (fun V => BytesAt V (some ⟨D1, 0, none⟩) 8 (frT 7 0 10 0 zeroK)) (by kernel_rfl) (by kernel_rfl) X3.out ?_
  refine walk_float rfl rfl (fun K hK => ?_)
  refine gives_move _ rfl ?_
  go_simp
  refine hK _ ?_
  clear hK K
  refine walk_float rfl rfl (fun K hK => ?_)
  refine gives_nil_neq _ rfl rfl ?_
  go_simp
  refine hK _ ?_
  clear hK K
  refine walk_float rfl rfl (fun K hK => ?_)
  refine gives_move _ rfl ?_
  go_simp
  refine hK _ ?_
  clear hK K
  refine walk_float rfl rfl (fun K hK => ?_)
  refine gives_move _ rfl ?_
  go_simp
  refine hK _ ?_
  clear hK K
  refine walk_float rfl rfl (fun K hK => ?_)
  refine gives_string _ rfl (some ⟨D1, 0, none⟩) 8 C1 rfl (frT 7 0 10 0 zeroK) (fun V hV => hV) ?_
  rw [ten_str]
  go_simp
  refine hK _ ?_
  clear hK K
  refine walk_done rfl rfl (fun K hK => ?_)
  refine done_call0 _ _ rfl 9 rfl (enters_of Try.func9 (by kernel_rfl) rfl) ?_
  refine (ten_any _).mono ?_
  rintro e w4 ⟨rfl, l4⟩
  have P4 := Lib.hid (P3.out.mono l4)
  refine ⟨_, rfl, X3.out.below l4, ?_⟩
  clear l4 P3 X3
  go_simp
  refine hK _ _ ?_
  clear hK K
  refine walk_float rfl rfl (fun K hK => ?_)
  refine gives_str_same _ _ rfl tenS rfl rfl ?_
  go_simp
  refine hK _ ?_
  clear hK K
  refine walk_float rfl rfl (fun K hK => ?_)
  refine gives_pickF _ _ _ rfl rfl (.bool false) rfl ?_
  go_simp
  refine hK _ ?_
  clear hK K
  refine walk_nil ?_
  obtain ⟨d0, d1, d2, d3⟩ := boxFr (P4.out.bx (i := 0) rfl)
  go_wp2_with (first
    | (go_at_call 16
       refine (DE.out w4 (HB.out _ P4.out.low)).mono ?_; rintro e w5 ⟨rfl, l5⟩
       have P5 := Lib.hid (P4.out.mono l5)
       clear l5 P4 d0 d1 d2 d3 DE)
    | (with_reducible show wpList _ _ _ (⟨some 7, Op.alloc 24, _, _, _, _⟩ :: _) _ _
       refine wpList_boxA_new rowFr rfl rfl _ rfl ?_
       intro wq xx ll ss
       have XX := Lib.hid xx
       have LL := Lib.hid ll
       clear xx ll ss)
    | (with_reducible show wpList _ _ _ (⟨_, Op.store 24 (.tmp 7) _, _, _, _, none⟩ :: _) _ _
       refine wpList_boxA_put rowFr rfl _ _ rfl rfl w5.heap.size (frA 0 0 0 none 0 0) _ (frA_size _ _ _ _ _ _) (frA_one _ _ _ _ _ _) (frA_size _ _ _ _ _ _) rfl rfl XX.out ?_
       intro w5x xx kk ss
       have bb := low_put LL.out (Nat.le_refl _) kk
       have P7 := Lib.hid (P5.out.add bb xx (Nat.le_refl _))
       clear xx kk ss bb XX LL P5)
    | (with_reducible show wpList _ _ _ (⟨some 60, Op.load 24 _, _, _, _, _⟩ :: _) _ _
       refine wpList_boxA_loadw rowFr _ rfl rfl w.heap.size (frA k n c p d cd) (frA_size _ _ _ _ _ _) rfl (P7.out.bx (i := 1) rfl) ?_)
    | (go_at_call 8
       refine (EN.out w5x).mono ?_; rintro e w9 ⟨rfl, l9⟩
       have P9 := Lib.hid (P7.out.mono l9)
       clear l9 P7 EN))
  go_ret
  exact ⟨rfl, P9.out.low⟩
theorem walk (PS : PduSpec) {w : World} (k n c : Int) (p : Option Addr) (d cd : Nat) (g : Nat → Nat) (pb : Option Addr) (m cb : Nat) (G : Nat → Nat) (hk : okI k) (hn : okI n) (hc : okI c) (hg : ∀ i, i < d → g i < 256) (hq : BytesAt w p d g) (hdc : d ≤ cd) (hm : cd ≤ maxLen) (hG : ∀ i, i < m → G i < 256) (hb : BytesAt w pb m G) (hmb : m ≤ cb) (hcb : cb ≤ maxLen) : Calls Try.prog 5 #[.agg (frA k n c p d cd), .slice pb m cb] w fun e w' => e = .returned (.bool true) ∧ Below w.heap.size w w' := by
  by_cases hl : d ≤ 500
  · by_cases hl2 : m ≤ 4096
    · by_cases hi : isF m G
      · by_cases hin : inF k n c d
        · exact go11 PS k n c p d cd g pb m cb G hk hn hc hg hq hdc hm hG hb hmb hcb hl hl2 hi hin
        · exact go10 PS k n c p d cd g pb m cb G hk hn hc hg hq hdc hm hG hb hmb hcb hl hl2 hi hin
      · by_cases hin : inF k n c d
        · exact go01 PS k n c p d cd g pb m cb G hk hn hc hg hq hdc hm hG hb hmb hcb hl hl2 hi hin
        · exact go00 PS k n c p d cd g pb m cb G hk hn hc hg hq hdc hm hG hb hmb hcb hl hl2 hi hin
    · exact big2 PS k n c p d cd g pb m cb G hk hn hc hg hq hdc hm hG hb hmb hcb hl (by omega)
  · exact big1 PS k n c p d cd g pb m cb G hk hn hc hg hq hdc hm hG hb hmb hcb (by omega)
theorem own : ownKnob Try.prog.godebug = none := by kernel_rfl
theorem laidOut : laidOutB Try.prog = true := by kernel_rfl
set_option maxRecDepth 100000 in
theorem lifted (os : Os) (started : os.Started) (H : Type) (enc : TypeId × Value → H) :
    ReturnsInHanded {} Try.checked os 5 .any (Rows.pduBackSpec.pre6 enc Try.prog Try.f5 Rows.pduBackRow.domain false) (Rows.pduBackSpec.post enc Try.prog Try.f5 false true false false) := by
  refine returnsInHanded_of_change (C := Try.checked) own started (by kernel_rfl) Try.func5
    (ChangeSpec.witness6 (enc := enc) (C := Try.checked) false ⟨#[], #[.agg #[.int .i64 0, .int .i64 0, .int .i64 0, .slice none 0 0], .slice none 0 0], []⟩ 8 (by kernel_rfl) (by kernel_rfl) (by kernel_rfl) (by kernel_rfl)) ?_
  intro W base args ds gs before hval0 hW hcnd _
  have hval : ∀ (j : Nat) t v, Try.f5.params[j]? = some t → args[j]? = some v → Value.okWide Try.prog W .any base t v := hval0
  have hW' := hW
  obtain ⟨p, q, hA0, hV, rfl, hfz, hnd⟩ := hW
  have hA : DataW.TrodAll enc Try.prog W 0 (fun _ => true) true Try.f5.params.toList args.toList ds p := hA0
  rw [Try.params5] at hA hval
  obtain ⟨v0, vs0, d0, ds0, p0, q0, hargs, rfl, rfl, h0, r0⟩ := trodAll_cons hA
  obtain ⟨v1, vs1, d1, ds1, p1, q1, rfl, rfl, rfl, h1, r1⟩ := trodAll_cons r0
  obtain ⟨rfl, rfl, rfl⟩ := trodAll_nil r1
  obtain rfl : args = #[v0, v1] := by cases args; simp_all
  obtain ⟨rfl, rfl⟩ := trodVars_none hV
  have k0 := h0
  have lt0 : ∀ x ∈ p0, x.block < W.heap.size := by obtain ⟨m, hm⟩ := k0; exact DataW.trod_lt m _ _ _ hm
  obtain ⟨f0, rfl, ok0⟩ := open_frame (hval 0 24 v0 rfl rfl) h0
  have k1 := h1
  have lt1 : ∀ x ∈ p1, x.block < W.heap.size := by obtain ⟨m, hm⟩ := k1; exact DataW.trod_lt m _ _ _ hm
  obtain ⟨q1, n1, c1, a1, rfl, w1, y1, l1, m1⟩ := open_byteslice (hval 1 22 v1 rfl rfl) h1
  clear hA0 hval0
  refine (walk pduSpec f0.k f0.n f0.c f0.p f0.d f0.cd f0.g q1 n1 c1 a1 ok0.k ok0.n ok0.c ok0.b ok0.at_ ok0.l ok0.m w1 y1 l1 m1).mono fun e W' ⟨he, bel⟩ => ?_
  subst he
  exact ⟨_, rfl, _, _, _, [], _, [], hW', trodAll_mk1 (shut_bool Try.underlying4 _), (trodAll_cons_mk (Below.trod laidOut (by kernel_rfl) (of_decide_eq_true (by kernel_rfl)) k0 bel lt0) (trodAll_cons_mk (Below.trod laidOut (by kernel_rfl) (of_decide_eq_true (by kernel_rfl)) k1 bel lt1) trodAll_mk0)), rfl, bel.frame _, fun h => by cases h⟩

theorem over : Rows.pduBackRow.holds Try.pinned (OpenSpec.ofChange Rows.pduBackSpec) :=
  OpenClaim.holds_of_wide 5 Try.f5 rfl rfl rfl rfl rfl rfl rfl ⟨rfl, rfl, rfl, rfl, rfl⟩ rfl rfl rfl rfl rfl (by kernel_rfl) Try.func5 (by kernel_rfl)
    (of_decide_eq_true (by kernel_rfl)) (by unfold Func.isWrapper; first | (rw [if_pos (by decide +kernel)]; kernel_rfl) | (rw [if_neg (by decide +kernel)]; exact ⟨rfl, rfl⟩))
    (fun os started H enc _ => lifted os started H enc)

theorem proved : Rows.PduBackSaid := over
end pduBack
end Go.Proofs.Ytebbnkkhabehmaa

/- CdbEncodes: which bytes every command has. No condition but the arguments' own forms. -/
import Derived.Test.YtkibeddfkenlkaaCbEq
import Derived.Test.YtkibeddfkenlkaaCbOpen
namespace Go.Proofs.Ytkibeddfkenlkaa
open Go.ChangeShapes Go.WideShapes Go.ChangeAt Go.RowKit
namespace cdbEncodes
set_option linter.unusedVariables false
set_option linter.unusedSimpArgs false
theorem own : ownKnob Try.prog.godebug = none := by kernel_rfl
attribute [local irreducible] cmA allC bytC lenC bytesN numsC markF cat mk zeroK checkN goodC
attribute [local go_sem] Oper.semAt_some
set_option maxRecDepth 100000 in
set_option maxHeartbeats 16000000 in
theorem walk {w : World} (q : Option Addr) (n c : Nat) (g : Nat → Nat) (x : CmdOf) (hok : x.ok) (hg : ∀ i, i < n → g i < 256) (hq : BytesAt w q n g) (hnc : n ≤ c) (hc : c ≤ maxLen) : Calls Try.prog 3 #[.agg (cmA q n c x)] w fun e w' => e = .returned (.bool true) ∧ Below w.heap.size w w' := by
  have HQ := Lib.hid (fun (W : World) (hb : Below w.heap.size w W) => hq.below hb)
  clear hok hg hnc hc hq
  have EX := Lib.hid (fun W => Encode_ex W)
  by_cases hl : (16384 : Int) < (n : Int)
  · have f1 : decide ((16384 : Int) < (n : Int)) = true := by simp [hl]
    have f2 : decide (16384 < n) = true := by simp; omega
    clear hl HQ
    go_enter Try.func3, Try.ntmps3
    go_wp2_with (first
      | (with_reducible show wpList _ _ _ (⟨some 1, Op.box cmT _, _, _, _, none⟩ :: _) _ _
         refine wpList_boxA_of rfl _ rfl (cmA q n c x) rfl ?_
         intro w1 x1 l1 s1
         have P1 := Lib.hid (show LwS w [(w.heap.size, cmA q n c x)] w1 from ⟨fun {i y} hi => by rcases i with _ | i; (obtain rfl : (w.heap.size, cmA q n c x) = y := by simpa using hi); exact x1; simp at hi, l1⟩)
         clear x1 l1 s1)
      | (go_at_call 9
         refine (example_any _).mono ?_; rintro e w2 ⟨rfl, l2⟩
         have P2 := Lib.hid (P1.out.mono l2)
         clear l2 P1)
      | (go_at_call 8
         refine (EX.out _).mono ?_; rintro e w3 ⟨D1, C1, rfl, b3, l3⟩
         have P3 := Lib.hid (P2.out.mono l3)
         have B3 := Lib.hid b3
         clear b3 l3 P2 EX)
      | (with_reducible show wpList _ _ _ (⟨some 19, Op.convert _ _ _, _, _, _, _⟩ :: _) _ _
         refine wpList_string_w rfl _ rfl (some ⟨D1, 0, none⟩) 6 C1 rfl (allC exC zeroK) B3.out ?_
         rw [bytes_ex, str_ex]
         clear B3)
      | (with_reducible show wpList _ _ _ (⟨some 22, Op.load cmT _, _, _, _, _⟩ :: _) _ _
         refine wpList_boxA_loadw rowCm _ rfl rfl w.heap.size (cmA q n c x) (cmA_size _ _ _ _) rfl (P3.out.box (i := 0) rfl) ?_)
      | (go_at_call 10
         refine large_any.mono ?_; rintro e w4 ⟨rfl, l4⟩
         have P4 := Lib.hid (P3.out.mono l4)
         clear l4 P3))
    go_ret
    exact ⟨rfl, P4.out.low⟩
  · have f1 : decide ((16384 : Int) < (n : Int)) = false := by simpa using hl
    have f2 : decide (16384 < n) = false := by simp; omega
    have HN := Lib.hid (show n ≤ 140737488351232 by omega)
    have CC := Lib.hid (fun (W : World) (hW : BytesAt W q n g) => Copy_row q n c g HN.out W hW)
    have KC := Lib.hid (fun (C : Nat) (W : World) (hW : BytesAt W q n g) hC => Kept_row q n c C g HN.out W hW hC)
    have HNM := Lib.hid (show lenC x + n ≤ 140737488351232 by have := lenC_le x; omega)
    clear hl
    cases hgd : goodC x n with
    | false =>
      have HG := Lib.hid hgd
      clear hgd
      go_enter Try.func3, Try.ntmps3
      go_wp2_with (first
        | (with_reducible show wpList _ _ _ (⟨some 1, Op.box cmT _, _, _, _, none⟩ :: _) _ _
           refine wpList_boxA_of rfl _ rfl (cmA q n c x) rfl ?_
           intro w1 x1 l1 s1
           have P1 := Lib.hid (show LwS w [(w.heap.size, cmA q n c x)] w1 from ⟨fun {i y} hi => by rcases i with _ | i; (obtain rfl : (w.heap.size, cmA q n c x) = y := by simpa using hi); exact x1; simp at hi, l1⟩)
           clear x1 l1 s1)
        | (go_at_call 9
           refine (example_any _).mono ?_; rintro e w2 ⟨rfl, l2⟩
           have P2 := Lib.hid (P1.out.mono l2)
           clear l2 P1)
        | (go_at_call 8
           refine (EX.out _).mono ?_; rintro e w3 ⟨D1, C1, rfl, b3, l3⟩
           have P3 := Lib.hid (P2.out.mono l3)
           have B3 := Lib.hid b3
           clear b3 l3 P2 EX)
        | (with_reducible show wpList _ _ _ (⟨some 19, Op.convert _ _ _, _, _, _, _⟩ :: _) _ _
           refine wpList_string_w rfl _ rfl (some ⟨D1, 0, none⟩) 6 C1 rfl (allC exC zeroK) B3.out ?_
           rw [bytes_ex, str_ex]
           clear B3)
        | (with_reducible show wpList _ _ _ (⟨some 22, Op.load cmT _, _, _, _, _⟩ :: _) _ _
           refine wpList_boxA_loadw rowCm _ rfl rfl w.heap.size (cmA q n c x) (cmA_size _ _ _ _) rfl (P3.out.box (i := 0) rfl) ?_)
        | (go_at_call 10
           refine large_any.mono ?_; rintro e w4 ⟨rfl, l4⟩
           have P4 := Lib.hid (P3.out.mono l4)
           clear l4 P3)
        | (with_reducible show wpList _ _ _ (⟨some 24, Op.load cmT _, _, _, _, _⟩ :: _) _ _
           refine wpList_boxA_loadw rowCm _ rfl rfl w.heap.size (cmA q n c x) (cmA_size _ _ _ _) rfl (P4.out.box (i := 0) rfl) ?_)
        | (with_reducible show wpList _ _ _ (⟨some 5, Op.alloc cmT, _, _, _, _⟩ :: _) _ _
           refine wpList_boxA_new rowCm rfl rfl w4.heap.size rfl ?_
           intro w5 x5 l5 s5
           have X5 := Lib.hid x5
           have L5 := Lib.hid l5
           clear x5 l5 s5)
        | (with_reducible show wpList _ _ _ (⟨_, Op.store cmT _ _, _, _, _, none⟩ :: _) _ _
           refine wpList_boxA_put rowCm rfl _ _ rfl rfl w4.heap.size (cmA q n c x) _ (cmA_size _ _ _ _) (cmA_one _ _ _ _) (cmA_size _ _ _ _) rfl rfl X5.out ?_
           intro w6 x6 k6 s6
           have P6 := Lib.hid (P4.out.add rfl L5.out x6 k6)
           have J6 := Lib.hid (show w.heap.size < w4.heap.size from (P4.out.box (i := 0) rfl).lt)
           obtain ⟨c0, c1, c2, c3, c4, c10⟩ := boxCm (P6.out.box (i := 1) rfl)
           clear x6 k6 s6 P4 X5 L5)
        | (go_at_call 11
           refine (CC.out _ (HQ.out _ P6.out.low)).mono ?_; rintro e w7 ⟨rfl, b7, l7⟩
           have P7 := Lib.hid (P6.out.mono l7)
           have K7 := Lib.hid b7
           have T7 := Lib.hid P6.out.low.size
           have N7 := Lib.hid (show w4.heap.size < w6.heap.size from (P6.out.box (i := 0) rfl).lt)
           clear b7 l7 P6 CC c0 c1 c2 c3 c4 c10)
        | (with_reducible show wpList _ _ _ (⟨_, Op.store 22 _ _, _, _, _, none⟩ :: _) _ _
           refine wpList_boxA_bytes rfl _ _ rfl rfl w4.heap.size (cmA q n c x) 4 (some ⟨w6.heap.size, 0, none⟩) n (n + 2) rfl rfl (P7.out.box (i := 0) rfl) (by simp [cmA_size]) ?_
           intro w8 x8 k8 s8
           rw [cmA_set] at x8
           have P8 := Lib.hid (P7.out.put (fun y hy => by obtain rfl : y = (w.heap.size, cmA q n c x) := (by simpa using hy); exact J6.out) (Nat.le_of_lt J6.out) x8 k8)
           have K8 := Lib.hid (show IntBlk w8 w6.heap.size .u8 5 (mk (n + 2) (markF n g)) from (k8.block _ K7.out.lt (fun e => by have := N7.out; omega)).trans K7.out)
           clear x8 k8 s8 P7 K7)
        | (with_reducible show wpList _ _ _ (⟨some 30, Op.load cmT _, _, _, _, _⟩ :: _) _ _
           refine wpList_boxA_loadw rowCm _ rfl rfl w4.heap.size (cmA (some ⟨w6.heap.size, 0, none⟩) n (n + 2) x) (cmA_size _ _ _ _) rfl (P8.out.box (i := 0) rfl) ?_)
        | (go_at_call 8
           refine (Encode_no HG.out).mono ?_; rintro e w9 ⟨rfl, l9⟩
           have P9 := Lib.hid (P8.out.mono l9)
           have K9 := Lib.hid (K8.out.below l9 K8.out.lt)
           clear l9 P8 K8)
        | (with_reducible show wpList _ _ _ (⟨some 35, Op.load cmT _, _, _, _, _⟩ :: _) _ _
           refine wpList_boxA_loadw rowCm _ rfl rfl w.heap.size (cmA q n c x) (cmA_size _ _ _ _) rfl (P9.out.box (i := 1) rfl) ?_)
        | (go_at_call 12
           refine (refEncode_no HG.out).mono ?_; rintro e wa ⟨rfl, la⟩
           have PA := Lib.hid (P9.out.mono la)
           have KA := Lib.hid (K9.out.below la K9.out.lt)
           obtain ⟨c0, c1, c2, c3, c4, c10⟩ := boxCm (PA.out.box (i := 1) rfl)
           obtain ⟨d0, d1, d2, d3, d4, d10⟩ := boxCm (PA.out.box (i := 0) rfl)
           clear la P9 K9)
        | (go_at_call 13
           refine (Same_true none 0 0 none 0 (fun _ => 0) (fun _ => 0) (fun _ _ => rfl) _ (.inl rfl) (.inl rfl)).mono ?_; rintro e wb ⟨rfl, rfl⟩)
        | (go_at_call 14
           refine (Is_err 11 rfl _).mono ?_; rintro e wb ⟨rfl, rfl⟩)
        | (go_at_call 15
           refine (KC.out w6.heap.size _ (HQ.out _ PA.out.low) KA.out).mono ?_; rintro e wc ⟨rfl, rfl⟩; clear KC)
        | (with_reducible show wpList _ _ _ (⟨_, Op.buildSlice 40 _ _, _, _, _, _⟩ :: _) _ _
           refine wpList_lists2 rfl _ _ rfl _ _ _ _ _ _ rfl rfl ?_)
        | (go_at_call 16
           have a7 : Below wa.heap.size wa (wa.alloc (.cells #[.slice none 0 0, .slice (some ⟨w6.heap.size, 0, none⟩) n (n + 2)] 22)) := (Below.refl _ _).alloc (Nat.le_refl _) _
           refine (Apart_two (w6.heap.size + 1) 0 0 true (fun _ => 0) w6.heap.size n (markF n g) w.heap.size wa.heap.size _ (.inl ⟨rfl, rfl, rfl⟩) (KA.out.below a7 KA.out.lt) HN.out (Nat.succ_ne_self _) T7.out (Nat.le_trans PA.out.low.size a7.size) (heap_alloc_new _ _)).mono ?_
           rintro e wd ⟨rfl, ld⟩
           have LD := Lib.hid ((PA.out.low.trans (a7.mono PA.out.low.size)).trans ld)
           clear a7 ld))
      go_ret
      exact ⟨rfl, LD.out⟩
    | true =>
      have HG := Lib.hid hgd
      clear hgd
      go_enter Try.func3, Try.ntmps3
      go_wp2_with (first
        | (with_reducible show wpList _ _ _ (⟨some 1, Op.box cmT _, _, _, _, none⟩ :: _) _ _
           refine wpList_boxA_of rfl _ rfl (cmA q n c x) rfl ?_
           intro w1 x1 l1 s1
           have P1 := Lib.hid (show LwS w [(w.heap.size, cmA q n c x)] w1 from ⟨fun {i y} hi => by rcases i with _ | i; (obtain rfl : (w.heap.size, cmA q n c x) = y := by simpa using hi); exact x1; simp at hi, l1⟩)
           clear x1 l1 s1)
        | (go_at_call 9
           refine (example_any _).mono ?_; rintro e w2 ⟨rfl, l2⟩
           have P2 := Lib.hid (P1.out.mono l2)
           clear l2 P1)
        | (go_at_call 8
           refine (EX.out _).mono ?_; rintro e w3 ⟨D1, C1, rfl, b3, l3⟩
           have P3 := Lib.hid (P2.out.mono l3)
           have B3 := Lib.hid b3
           clear b3 l3 P2 EX)
        | (with_reducible show wpList _ _ _ (⟨some 19, Op.convert _ _ _, _, _, _, _⟩ :: _) _ _
           refine wpList_string_w rfl _ rfl (some ⟨D1, 0, none⟩) 6 C1 rfl (allC exC zeroK) B3.out ?_
           rw [bytes_ex, str_ex]
           clear B3)
        | (with_reducible show wpList _ _ _ (⟨some 22, Op.load cmT _, _, _, _, _⟩ :: _) _ _
           refine wpList_boxA_loadw rowCm _ rfl rfl w.heap.size (cmA q n c x) (cmA_size _ _ _ _) rfl (P3.out.box (i := 0) rfl) ?_)
        | (go_at_call 10
           refine large_any.mono ?_; rintro e w4 ⟨rfl, l4⟩
           have P4 := Lib.hid (P3.out.mono l4)
           clear l4 P3)
        | (with_reducible show wpList _ _ _ (⟨some 24, Op.load cmT _, _, _, _, _⟩ :: _) _ _
           refine wpList_boxA_loadw rowCm _ rfl rfl w.heap.size (cmA q n c x) (cmA_size _ _ _ _) rfl (P4.out.box (i := 0) rfl) ?_)
        | (with_reducible show wpList _ _ _ (⟨some 5, Op.alloc cmT, _, _, _, _⟩ :: _) _ _
           refine wpList_boxA_new rowCm rfl rfl w4.heap.size rfl ?_
           intro w5 x5 l5 s5
           have X5 := Lib.hid x5
           have L5 := Lib.hid l5
           clear x5 l5 s5)
        | (with_reducible show wpList _ _ _ (⟨_, Op.store cmT _ _, _, _, _, none⟩ :: _) _ _
           refine wpList_boxA_put rowCm rfl _ _ rfl rfl w4.heap.size (cmA q n c x) _ (cmA_size _ _ _ _) (cmA_one _ _ _ _) (cmA_size _ _ _ _) rfl rfl X5.out ?_
           intro w6 x6 k6 s6
           have P6 := Lib.hid (P4.out.add rfl L5.out x6 k6)
           have J6 := Lib.hid (show w.heap.size < w4.heap.size from (P4.out.box (i := 0) rfl).lt)
           obtain ⟨c0, c1, c2, c3, c4, c10⟩ := boxCm (P6.out.box (i := 1) rfl)
           clear x6 k6 s6 P4 X5 L5)
        | (go_at_call 11
           refine (CC.out _ (HQ.out _ P6.out.low)).mono ?_; rintro e w7 ⟨rfl, b7, l7⟩
           have P7 := Lib.hid (P6.out.mono l7)
           have K7 := Lib.hid b7
           have T7 := Lib.hid P6.out.low.size
           have N7 := Lib.hid (show w4.heap.size < w6.heap.size from (P6.out.box (i := 0) rfl).lt)
           clear b7 l7 P6 CC c0 c1 c2 c3 c4 c10)
        | (with_reducible show wpList _ _ _ (⟨_, Op.store 22 _ _, _, _, _, none⟩ :: _) _ _
           refine wpList_boxA_bytes rfl _ _ rfl rfl w4.heap.size (cmA q n c x) 4 (some ⟨w6.heap.size, 0, none⟩) n (n + 2) rfl rfl (P7.out.box (i := 0) rfl) (by simp [cmA_size]) ?_
           intro w8 x8 k8 s8
           rw [cmA_set] at x8
           have P8 := Lib.hid (P7.out.put (fun y hy => by obtain rfl : y = (w.heap.size, cmA q n c x) := (by simpa using hy); exact J6.out) (Nat.le_of_lt J6.out) x8 k8)
           have K8 := Lib.hid (show IntBlk w8 w6.heap.size .u8 5 (mk (n + 2) (markF n g)) from (k8.block _ K7.out.lt (fun e => by have := N7.out; omega)).trans K7.out)
           clear x8 k8 s8 P7 K7)
        | (with_reducible show wpList _ _ _ (⟨some 30, Op.load cmT _, _, _, _, _⟩ :: _) _ _
           refine wpList_boxA_loadw rowCm _ rfl rfl w4.heap.size (cmA (some ⟨w6.heap.size, 0, none⟩) n (n + 2) x) (cmA_size _ _ _ _) rfl (P8.out.box (i := 0) rfl) ?_)
        | (go_at_call 8
           refine (Encode_ok (K8.out.bytesAt.low rfl) HG.out).mono ?_; rintro e w9 ⟨D, C, F, rfl, b9, f9, d9, t9, l9⟩
           have P9 := Lib.hid (P8.out.mono l9)
           have K9 := Lib.hid (K8.out.below l9 K8.out.lt)
           have B9 := Lib.hid b9
           have F9 := Lib.hid f9
           have C9 := Lib.hid d9
           have N9 := Lib.hid (show w6.heap.size < D from Nat.lt_of_lt_of_le K8.out.lt t9)
           clear b9 f9 d9 t9 l9 P8 K8)
        | (with_reducible show wpList _ _ _ (⟨some 35, Op.load cmT _, _, _, _, _⟩ :: _) _ _
           refine wpList_boxA_loadw rowCm _ rfl rfl w.heap.size (cmA q n c x) (cmA_size _ _ _ _) rfl (P9.out.box (i := 1) rfl) ?_)
        | (go_at_call 12
           refine (refEncode_ok (HQ.out _ P9.out.low) HG.out).mono ?_; rintro e wa ⟨pa, ca, rfl, ba, la⟩
           have PA := Lib.hid (P9.out.mono la)
           have KA := Lib.hid (K9.out.below la K9.out.lt)
           have BA := Lib.hid (B9.out.below la B9.out.lt)
           have RA := Lib.hid ba
           obtain ⟨c0, c1, c2, c3, c4, c10⟩ := boxCm (PA.out.box (i := 1) rfl)
           obtain ⟨d0, d1, d2, d3, d4, d10⟩ := boxCm (PA.out.box (i := 0) rfl)
           clear ba la P9 K9 B9)
        | (go_at_call 13
           refine (Same_true (some ⟨D, 0, none⟩) (lenC x + n) C pa ca F (allC x g) F9.out _ (BA.out.first C9.out) RA.out).mono ?_
           rintro e wb ⟨rfl, rfl⟩
           clear RA)
        | (go_at_call 15
           refine (KC.out w6.heap.size _ (HQ.out _ PA.out.low) KA.out).mono ?_; rintro e wc ⟨rfl, rfl⟩; clear KC)
        | (with_reducible show wpList _ _ _ (⟨_, Op.buildSlice 40 _ _, _, _, _, _⟩ :: _) _ _
           refine wpList_lists2 rfl _ _ rfl _ _ _ _ _ _ rfl rfl ?_)
        | (go_at_call 16
           have a7 : Below wa.heap.size wa (wa.alloc (.cells #[.slice (some ⟨D, 0, none⟩) (lenC x + n) C, .slice (some ⟨w6.heap.size, 0, none⟩) n (n + 2)] 22)) := (Below.refl _ _).alloc (Nat.le_refl _) _
           refine (Apart_two D (lenC x + n) C false F w6.heap.size n (markF n g) w.heap.size wa.heap.size _ (.inr ⟨rfl, Nat.le_trans T7.out (Nat.le_of_lt N9.out), C9.out, HNM.out, BA.out.below a7 BA.out.lt⟩) (KA.out.below a7 KA.out.lt) HN.out (Nat.ne_of_gt N9.out) T7.out (Nat.le_trans PA.out.low.size a7.size) (heap_alloc_new _ _)).mono ?_
           rintro e wd ⟨rfl, ld⟩
           have LD := Lib.hid ((PA.out.low.trans (a7.mono PA.out.low.size)).trans ld)
           clear a7 ld))
      go_ret
      exact ⟨rfl, LD.out⟩
theorem laidOut : laidOutB Try.prog = true := by kernel_rfl
set_option maxRecDepth 100000 in
theorem lifted (os : Os) (started : os.Started) (H : Type) (enc : TypeId × Value → H) :
    ReturnsInHanded {} Try.checked os 3 .any (Rows.cdbEncodesSpec.pre6 enc Try.prog Try.f3 Rows.cdbEncodesRow.domain false) (Rows.cdbEncodesSpec.post enc Try.prog Try.f3 false true false false) := by
  refine returnsInHanded_of_change (C := Try.checked) own started (by kernel_rfl) Try.func3
    (ChangeSpec.witness6 (enc := enc) (C := Try.checked) false ⟨#[], #[.agg #[.int .i64 0, .int .i64 0, .int .i64 0, .int .i64 0, .slice none 0 0, .int .i64 0, .int .i64 0, .int .i64 0, .int .i64 0, .int .i64 0, .bool false]], []⟩ 8 (by kernel_rfl) (by kernel_rfl) (by kernel_rfl) (by kernel_rfl)) ?_
  intro W base args ds gs before hval0 hW hcnd _
  have hval : ∀ (j : Nat) t v, Try.f3.params[j]? = some t → args[j]? = some v → Value.okWide Try.prog W .any base t v := hval0
  have hW' := hW
  obtain ⟨p, q, hA0, hV, rfl, hfz, hnd⟩ := hW
  have hA : DataW.TrodAll enc Try.prog W 0 (fun _ => true) true Try.f3.params.toList args.toList ds p := hA0
  rw [Try.params3] at hA hval
  obtain ⟨v0, vs0, d0, ds0, p0, q0, hargs, rfl, rfl, h0, r0⟩ := trodAll_cons hA
  obtain ⟨rfl, rfl, rfl⟩ := trodAll_nil r0
  obtain rfl : args = #[v0] := by cases args; simp_all
  obtain ⟨rfl, rfl⟩ := trodVars_none hV
  have k0 := h0
  have lt0 : ∀ x ∈ p0, x.block < W.heap.size := by obtain ⟨m, hm⟩ := k0; exact DataW.trod_lt m _ _ _ hm
  obtain ⟨q0, n0, c0, g0, x0, rfl, w0, u0, y0, b0, m0⟩ := open_cmd (hval 0 26 v0 rfl rfl) h0
  clear hA0 hval0
  refine (walk q0 n0 c0 g0 x0 w0 u0 y0 b0 m0).mono fun e W' ⟨he, bel⟩ => ?_
  subst he
  exact ⟨_, rfl, _, _, _, [], _, [], hW', trodAll_mk1 (shut_bool Try.underlying4 _), (trodAll_cons_mk (Below.trod laidOut (by kernel_rfl) (of_decide_eq_true (by kernel_rfl)) k0 bel lt0) trodAll_mk0), rfl, bel.frame _, fun h => by cases h⟩

theorem over : Rows.cdbEncodesRow.holds Try.pinned (OpenSpec.ofChange Rows.cdbEncodesSpec) :=
  OpenClaim.holds_of_wide 3 Try.f3 rfl rfl rfl rfl rfl rfl rfl ⟨rfl, rfl, rfl, rfl, rfl⟩ rfl rfl rfl rfl rfl (by kernel_rfl) Try.func3 (by kernel_rfl)
    (of_decide_eq_true (by kernel_rfl)) (by unfold Func.isWrapper; first | (rw [if_pos (by decide +kernel)]; kernel_rfl) | (rw [if_neg (by decide +kernel)]; exact ⟨rfl, rfl⟩))
    (fun os started H enc _ => lifted os started H enc)

theorem proved : Rows.CdbEncodesSaid := over
end cdbEncodes
end Go.Proofs.Ytkibeddfkenlkaa

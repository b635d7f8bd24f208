/- The contracts of citadelref16's Answer and Draw. Conditions: bytes as they lie in memory; texts of no more than 80,000 bytes. -/
import Derived.Test.YtccpecajbfpjdaaDoorChVal
namespace Go.Proofs.YtccpecajbfpjdaaDoor
open Go.ChangeShapes Go.WideShapes Go.ChangeAt Go.RowKit Go.Shelf
set_option linter.unusedVariables false
set_option linter.unusedSimpArgs false
attribute [local irreducible] ansT ansD drwT drwD mk zeroK digF tagF numF
attribute [local go_sem] Oper.semAt_some
set_option maxRecDepth 100000 in
set_option maxHeartbeats 1000000 in
theorem refAnswer_any {w : World} (z : Int) {p : Option Addr} {n1 c1 : Nat} {g1 : Nat → Nat} {q : Option Addr} {n2 c2 : Nat} {g2 : Nat → Nat} (hl : n1 + n2 ≤ 80000) (h1 : ∀ j, j < n1 → g1 j < 256) (h2 : ∀ j, j < n2 → g2 j < 256) (hp : BytesAt w p n1 g1) (hq : BytesAt w q n2 g2) :
    Calls Tryd.prog 11 #[.int .i64 z, .slice p n1 c1, .slice q n2 c2] w fun e w' => e = .returned (.agg (cellsOf .u8 (mk 32 (ansD z n1 g1 n2 g2)))) ∧ Below w.heap.size w w' := by
  have HP := Lib.hid (fun (W : World) (hb : Below w.heap.size w W) => hp.below hb)
  have HQ := Lib.hid (fun (W : World) (hb : Below w.heap.size w W) => hq.below hb)
  have HL := Lib.hid hl
  have HT := Lib.hid (ansT_lt (z := z) h1 h2)
  have T0 := Lib.hid (show ansT z n1 g1 g2 0 = (IntKind.u8.wrap z).toNat by unfold ansT; rfl)
  have T1 := Lib.hid (show ∀ j, j < n1 → g1 j = ansT z n1 g1 g2 (1 + j) from fun j hj => by unfold ansT; rw [if_neg (by omega), if_pos (by omega)]; congr 1; omega)
  have T2 := Lib.hid (show ∀ j, j < n2 → g2 j = ansT z n1 g1 g2 (1 + n1 + j) from fun j hj => by unfold ansT; rw [if_neg (by omega), if_neg (by omega)]; congr 1; omega)
  have OF := Lib.hid (fun (P : Option Addr) (cap : Nat) (W : World) (h : BytesAt W P (1 + n1 + n2) (ansT z n1 g1 g2)) => refOf_any P (1 + n1 + n2) cap (ansT z n1 g1 g2) (by omega) (ansT_lt (z := z) h1 h2) W h)
  have AD := Lib.hid (show digF (1 + n1 + n2) (ansT z n1 g1 g2) = ansD z n1 g1 n2 g2 by unfold ansD; rfl)
  have WZ := Lib.hid (wrap8 z)
  clear hl h1 h2 hp hq
  generalize ansT z n1 g1 g2 = T at *
  go_enter Tryd.func11, Tryd.ntmps11
  go_wp2_with (first
  | (with_reducible show wpList _ _ _ (⟨some 6, Op.alloc 25, _, _, _, _⟩ :: _) _ _
     refine wpList_boxA_new rowSum rfl rfl _ rfl ?_
     intro w1 x1 l1 s1
     have P1 := Lib.hid (show LwB w [bxO w.heap.size 25 (cellsOf .u8 (mk 32 zeroK))] w1 from (LwB.none w).add l1 x1 (Nat.le_refl _))
     clear x1 l1 s1)
  | (with_reducible show wpList _ _ _ (⟨some 10, Op.buildSlice 22 _ _, _, _, _, _⟩ :: _) _ _
     refine wpList_bytes1 rfl _ rfl (IntKind.u8.wrap z) rfl ?_
     have O2 := Lib.hid (show OwnS 5 1 (w1.alloc (.cells (cellsOf .u8 [IntKind.u8.wrap z]) 5)) w1.heap.size (w1.heap.size + 1) (.slice (some ⟨w1.heap.size, 0, none⟩) 1 1) 1 T from by
       have h := OwnS.one w1 T w1.heap.size _ (Nat.le_refl _) T0.out
       rw [WZ.out] at h; exact h)
     have P2 := Lib.hid (P1.out.mono (Below.alloc (Below.refl w1.heap.size w1) (Nat.le_refl _) (.cells (cellsOf .u8 [IntKind.u8.wrap z]) 5)))
     have S2 := Lib.hid (show w1.heap.size ≤ (w1.alloc (.cells (cellsOf .u8 [IntKind.u8.wrap z]) 5)).heap.size by simp)
     generalize w1.alloc (.cells (cellsOf .u8 [IntKind.u8.wrap z]) 5) = w2 at *)
  | (refine wpList_append_own_bytes rfl _ _ rfl w1.heap.size (w1.heap.size + 1) 1 _ T g1 p n1 c1 rfl rfl O2.out (HP.out _ P2.out.low) T1.out (by have := HL.out; omega) S2.out ?_
     intro v3 w3 o3 l3
     have O3 := Lib.hid o3
     have P3 := Lib.hid (LwB.over P2.out P1.out l3)
     have S3 := Lib.hid (Nat.le_trans S2.out l3.size)
     clear o3 l3 O2 P2)
  | (refine wpList_append_own_bytes rfl _ _ rfl w1.heap.size w3.heap.size (1 + n1) _ T g2 q n2 c2 rfl rfl O3.out (HQ.out _ P3.out.low) T2.out (by have := HL.out; omega) S3.out ?_
     intro v4 w4 o4 l4
     obtain ⟨p4, c4, rfl, -, -, b4, -⟩ := o4.bytes (Nat.le_refl _)
     have B4 := Lib.hid b4
     have P4 := Lib.hid (LwB.over P3.out P1.out l4)
     clear o4 l4 b4 O3 P3)
  | (go_at_call 23
     refine (OF.out p4 c4 _ B4.out).mono ?_; rintro e w5 ⟨rfl, l5⟩
     rw [AD.out]
     have P5 := Lib.hid (P4.out.mono l5)
     clear l5 P4 B4)
  | (with_reducible show wpList _ _ _ (⟨_, Op.store 25 _ _, _, _, _, none⟩ :: _) _ _
     refine wpList_boxA_put rowSum rfl _ _ rfl rfl w.heap.size (cellsOf .u8 (mk 32 (ansD z n1 g1 n2 g2))) (cellsOf .u8 (mk 32 zeroK)) (s32_size _) (s32_one _) (s32_size _) rfl rfl (P5.out.bx (i := 0) rfl) ?_
     intro w6 x6 k6 s6
     have P6 := Lib.hid (show LwB w [bxO w.heap.size 25 (cellsOf .u8 (mk 32 (ansD z n1 g1 n2 g2)))] w6 from P5.out.put 0 rfl x6 k6)
     clear x6 k6 s6 P5))
  exact bodyPost_ret (results_s32 rfl _ _ w.heap.size (ansD z n1 g1 n2 g2) rfl (P6.out.bx (i := 0) rfl)) rfl ⟨rfl, P6.out.low⟩
set_option maxRecDepth 100000 in
set_option maxHeartbeats 1000000 in
theorem refDraw_any {w : World} (seed n : Int) : Calls Tryd.prog 16 #[.int .i64 seed, .int .i64 n] w fun e w' => e = .returned (.agg (cellsOf .u8 (mk 32 (drwD seed n)))) ∧ Below w.heap.size w w' := by
  have NB1 := Lib.hid (fun (W : World) => refNumber_own 8 seed (by unfold IsSize; omega) (.inl rfl) W)
  have NB2 := Lib.hid (fun (W : World) => refNumber_own 8 n (by unfold IsSize; omega) (.inl rfl) W)
  have TG := Lib.hid (fun (P Q : Option Addr) (c d : Nat) (W : World) (h : BytesAt W P 8 (numF 8 seed)) (h' : BytesAt W Q 12 (drwT n)) => refTag_any P 8 c (numF 8 seed) Q 12 d (drwT n) (by omega) (fun j _ => numF_lt _ _ j) (by omega) (fun j _ => drwT_lt n j) W h h')
  have T1 := Lib.hid (show ∀ j, j < 8 → numF 8 n j = drwT n (4 + j) from fun j hj => by unfold drwT; rw [if_neg (by omega)]; congr 1; omega)
  have AD := Lib.hid (show tagF 8 (numF 8 seed) 12 (drwT n) = drwD seed n by unfold drwD; rfl)
  have OD := Lib.hid (fun (W : World) => draw_lit W n)
  go_enter Tryd.func16, Tryd.ntmps16
  go_wp2_with (first
  | (with_reducible show wpList _ _ _ (⟨some 4, Op.alloc 25, _, _, _, _⟩ :: _) _ _
     refine wpList_boxA_new rowSum rfl rfl _ rfl ?_
     intro w1 x1 l1 s1
     have P1 := Lib.hid (show LwB w [bxO w.heap.size 25 (cellsOf .u8 (mk 32 zeroK))] w1 from (LwB.none w).add l1 x1 (Nat.le_refl _))
     clear x1 l1 s1)
  | (go_at_call 26
     refine (NB1.out w1).mono ?_; rintro e w2 ⟨p2, c2, rfl, o2, l2⟩
     have O2 := Lib.hid (o2.bytes (Nat.le_refl _))
     have P2 := Lib.hid (P1.out.mono l2)
     clear o2 l2 P1 NB1)
  | (go_at_call 26
     refine (NB2.out w2).mono ?_; rintro e w3 ⟨p3, c3, rfl, o3, l3⟩
     obtain ⟨p3', c3', e3, -, -, b3, -⟩ := o3.bytes (Nat.le_refl _)
     obtain ⟨p2', c2', e2, -, -, b2, -⟩ := O2.out
     cases e3; cases e2
     have B3 := Lib.hid b3
     have B2 := Lib.hid (b2.below l3)
     have P3 := Lib.hid (P2.out.mono l3)
     clear o3 l3 b3 b2 P2 O2 NB2)
  | (with_reducible show wpList _ _ _ (⟨some 20, Op.buildSlice 22 _ _, _, _, _, _⟩ :: _) _ _
     refine wpList_draw rfl rfl ?_)
  | (with_reducible show wpList _ _ _ (⟨some 21, Op.convert _ _ _, _, _, _, _⟩ :: _) _ _
     refine wpList_lit1 rfl _ rfl w3.heap.size 4 4 rfl (heap_alloc_new w3 (.cells (cellsOf .u8 drawL) 5)) ?_
     have C4 := Lib.hid (OD.out w3).1
     have L4 := Lib.hid (OD.out w3).2
     have P4 := Lib.hid (P3.out.mono L4.out)
     have B4 := Lib.hid (B3.out.below L4.out)
     have A4 := Lib.hid (B2.out.below L4.out)
     change wpList _ _ _ _ _ ((w3.alloc (.cells (cellsOf .u8 drawL) 5)).freeze ⟨w3.heap.size, 4, none⟩ 1)
     generalize (w3.alloc (.cells (cellsOf .u8 drawL) 5)).freeze ⟨w3.heap.size, 4, none⟩ 1 = w4 at *
     clear P3 B3 B2)
  | (refine wpList_append_at rfl _ _ rfl w3.heap.size 4 (drwT n) (drwT n) (numF 8 n) p3 8 c3 rfl rfl C4.out B4.out (by omega) (by omega) (fun _ _ => rfl) T1.out ?_
     intro c5 w5 b5 l5
     have B5 := Lib.hid b5
     have A5 := Lib.hid (A4.out.below l5)
     have P5 := Lib.hid (P4.out.mono l5)
     clear l5 b5 B4 A4 P4 C4 L4)
  | (go_at_call 27
     refine (TG.out _ _ _ c5 _ A5.out B5.out).mono ?_; rintro e w6 ⟨rfl, l6⟩
     rw [AD.out]
     have P6 := Lib.hid (P5.out.mono l6)
     clear l6 P5 B5 A5)
  | (with_reducible show wpList _ _ _ (⟨_, Op.store 25 _ _, _, _, _, none⟩ :: _) _ _
     refine wpList_boxA_put rowSum rfl _ _ rfl rfl w.heap.size (cellsOf .u8 (mk 32 (drwD seed n))) (cellsOf .u8 (mk 32 zeroK)) (s32_size _) (s32_one _) (s32_size _) rfl rfl (P6.out.bx (i := 0) rfl) ?_
     intro w7 x7 k7 s7
     have P7 := Lib.hid (show LwB w [bxO w.heap.size 25 (cellsOf .u8 (mk 32 (drwD seed n)))] w7 from P6.out.put 0 rfl x7 k7)
     clear x7 k7 s7 P6))
  exact bodyPost_ret (results_s32 rfl _ _ w.heap.size (drwD seed n) rfl (P7.out.bx (i := 0) rfl)) rfl ⟨rfl, P7.out.low⟩
end Go.Proofs.YtccpecajbfpjdaaDoor

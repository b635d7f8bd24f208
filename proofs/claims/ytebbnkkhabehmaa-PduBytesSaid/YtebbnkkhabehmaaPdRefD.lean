/- The contract of the document's own Decode. Conditions: the bytes lie in memory. -/
import Derived.Test.YtebbnkkhabehmaaPdGiv
namespace Go.Proofs.Ytebbnkkhabehmaa
open Go.ChangeShapes Go.WideShapes Go.ChangeAt Go.RowKit
set_option linter.unusedVariables false
set_option linter.unusedSimpArgs false
attribute [local irreducible] frT mk zeroK numF valN kF nF cF gF
attribute [local go_sem] Oper.semAt_some
set_option maxRecDepth 100000 in
set_option maxHeartbeats 8000000 in
theorem refDecode_short {w : World} {p : Option Addr} {n c : Nat} (h8 : n < 8) :
    Calls Try.prog 17 #[.slice p n c] w fun e w' => e = .returned (.tuple #[.agg (frA 0 0 0 none 0 0), .bool false]) ∧ Below w.heap.size w w' := by
  have f1 : decide ((n : Int) < 8) = true := by simp; omega
  have f2 : decide (n < 8) = true := by simp; omega
  clear h8
  go_enter Try.func17, Try.ntmps17
  go_wp2_with (first
  | (with_reducible show wpList _ _ _ (⟨some 2, Op.alloc 24, _, _, _, _⟩ :: _) _ _
     refine wpList_boxA_new rowFr rfl rfl w.heap.size rfl ?_
     intro w1 x1 l1 s1
     have X1 := Lib.hid x1
     have L1 := Lib.hid l1
     clear x1 l1 s1)
  | (with_reducible show wpList _ _ _ (⟨_, Op.build 24 _, _, _, _, none⟩ :: _) _ _
     refine wpList_build_any rfl 24 #[] #[] (.agg (frA 0 0 0 none 0 0)) rfl (by simp) (fun w => run_build w 24 #[] _ (by kernel_rfl)) ?_)
  | (with_reducible show wpList _ _ _ (⟨_, Op.store 24 (.tmp 2) _, _, _, _, none⟩ :: _) _ _
     refine wpList_boxA_put rowFr rfl _ _ rfl rfl w.heap.size (frA 0 0 0 none 0 0) _ (frA_size _ _ _ _ _ _) (frA_one _ _ _ _ _ _) (frA_size _ _ _ _ _ _) rfl rfl X1.out ?_
     intro w9 x9 k9 s9
     have X9 := Lib.hid x9
     have L9 := Lib.hid (low_put L1.out (Nat.le_refl _) k9)
     clear x9 k9 s9 X1 L1))
  exact bodyPost_ret (results_cell_row_tmp rfl _ _ w.heap.size 24 (frA 0 0 0 none 0 0) (0, 0) _ rfl X9.out Try.underlying24 rfl (by rw [frA_size]; exact rowFr.size)) rfl ⟨rfl, L9.out⟩
set_option maxRecDepth 100000 in
set_option maxHeartbeats 8000000 in
theorem refDecode_bad {w : World} {p : Option Addr} {n c : Nat} {G : Nat → Nat} (hp : BytesAt w p n G) (hG : ∀ j, j < n → G j < 256) (hc : n ≤ c) (hn : n ≤ 100000) (h8 : 8 ≤ n) (hin : ¬ inF (kF G) (nF G) (cF G) (n - 8)) :
    Calls Try.prog 17 #[.slice p n c] w fun e w' => e = .returned (.tuple #[.agg (frA 0 0 0 none 0 0), .bool false]) ∧ Below w.heap.size w w' := by
  have HP := Lib.hid (fun (W : World) (hb : Below w.heap.size w W) => hp.below hb)
  have f1 : decide ((n : Int) < 8) = false := by simp; omega
  have f2 : decide (n < 8) = false := by simp; omega
  have HNC := Lib.hid hc
  have H8 := Lib.hid h8
  have HN := Lib.hid hn
  have HIN := Lib.hid hin
  obtain ⟨PB, po, hpe, hPB, hcl⟩ : ∃ B o, p = some ⟨B, o, none⟩ ∧ B < w.heap.size ∧ Cells w B o n G := by
    rcases hp with h | h
    · omega
    · exact h
  have HPB := Lib.hid hPB
  have C0 := Lib.hid (hcl 0 (by omega))
  have C5 := Lib.hid (hcl 5 (by omega))
  have G0 := Lib.hid (show 0 ≤ ((G 0 : Nat) : Int) ∧ ((G 0 : Nat) : Int) < 256 by have := hG 0 (by omega); omega)
  have G5 := Lib.hid (show 0 ≤ ((G 5 : Nat) : Int) ∧ ((G 5 : Nat) : Int) < 256 by have := hG 5 (by omega); omega)
  have K0 := Lib.hid (show ((G 0 : Nat) : Int) = kF G by unfold kF; rfl)
  have K5 := Lib.hid (show ((G 5 : Nat) : Int) = cF G by unfold cF; rfl)
  have NW := Lib.hid (show IntKind.i64.wrap ((valN 4 (fun j => G (1 + j)) : Nat) : Int) = nF G by
    have := valN_lt (g := fun j => G (1 + j)) 4 (fun i hi => hG _ (by omega))
    unfold nF; exact IntWalk.i64_in _ (by omega))
  have TK := Lib.hid (fun (q : Option Addr) (m : Nat) (W : World) (h : BytesAt W q (n - 1) (fun j => G (1 + j))) => refTake_ok q (n - 1) m (fun j => G (1 + j)) (fun i hi => hG _ (by omega)) 4 (.inr (.inr (.inl rfl))) (by omega) W h)
  clear hp hG hc hn h8 hin hPB hcl
  subst hpe
  generalize hk : kF G = kk at *
  generalize hn' : nF G = nn at *
  generalize hc' : cF G = cc at *
  clear hk hn' hc'
  go_enter Try.func17, Try.ntmps17
  go_wp2_with (first
  | (with_reducible show wpList _ _ _ (⟨some 2, Op.alloc 24, _, _, _, _⟩ :: _) _ _
     refine wpList_boxA_new rowFr rfl rfl w.heap.size rfl ?_
     intro w1 x1 l1 s1
     have X1 := Lib.hid x1
     have L1 := Lib.hid l1
     clear x1 l1 s1)
  | (with_reducible show wpList _ _ _ (⟨some 15, Op.slice 22 _ _ _ _, _, _, _, _⟩ :: _) _ _
     refine wpList_tail rfl _ _ rfl (some ⟨PB, po, none⟩) n c 1 1 rfl rfl rfl (by have := H8.out; omega) HNC.out ?_
     intro p1 hb1 _
     have Q1 := Lib.hid (hb1 _ G (HP.out _ L1.out))
     clear hb1)
  | (go_at_call 29
     refine (TK.out p1 (c - 1) _ Q1.out).mono ?_; rintro e w2 ⟨rfl, hw⟩
     rw [NW.out]
     have X2 := Lib.hid (show BoxA w2 w.heap.size 24 (frA 0 0 0 none 0 0) from hw ▸ X1.out)
     have L2 := Lib.hid (show Below w.heap.size w w2 from hw ▸ L1.out)
     clear hw Q1 TK X1 L1))
  have B2 := Lib.hid (show Below w2.heap.size w2 w2.drew from (Below.refl _ w2).drew)
  refine wp_region_tree (.float 0 (.float 1 (.float 2 (.float 3 (.float 4 (.float 5 (.float 6 (.float 7 (.float 8 (.float 10 (.float 11 (.two 9 (.two 12 (.float 13 (.one 14 (.one 15 .over))) 14 (.one 12 (.float 13 (.one 15 .over)))) 14 (.one 9 (.one 12 (.float 13 (.one 15 .over)))))))))))))))) (fun V => Below w2.heap.size w2 V) (by kernel_rfl) (by kernel_rfl) B2.out ?_
  refine tree_float rfl rfl (fun K hK => ?_)
  refine gives_move _ rfl ?_
  go_simp
  refine hK _ ?_
  clear hK K
  refine tree_float rfl rfl (fun K hK => ?_)
  refine gives_at _ _ rfl PB po n c 0 0 rfl rfl rfl (by have := H8.out; omega) ?_
  go_simp
  refine hK _ ?_
  clear hK K
  refine tree_float rfl rfl (fun K hK => ?_)
  refine gives_cell 5 _ rfl ⟨PB, po + 0, none⟩ (.int .u8 ((G 0 : Nat) : Int)) rfl box_byte (fun V hV => ((L2.out.trans (hV.mono L2.out.size)).cell (p := ⟨PB, po + 0, none⟩) HPB.out).trans C0.out) ?_
  go_simp
  refine hK _ ?_
  clear hK K
  refine tree_float rfl rfl (fun K hK => ?_)
  refine gives_to_int _ rfl ((G 0 : Nat) : Int) rfl G0.out ?_
  rw [K0.out]
  go_simp
  refine hK _ ?_
  clear hK K
  refine tree_float rfl rfl (fun K hK => ?_)
  refine gives_move _ rfl ?_
  go_simp
  refine hK _ ?_
  clear hK K
  refine tree_float rfl rfl (fun K hK => ?_)
  refine gives_move _ rfl ?_
  go_simp
  refine hK _ ?_
  clear hK K
  refine tree_float rfl rfl (fun K hK => ?_)
  refine gives_at _ _ rfl PB po n c 5 5 rfl rfl rfl (by have := H8.out; omega) ?_
  go_simp
  refine hK _ ?_
  clear hK K
  refine tree_float rfl rfl (fun K hK => ?_)
  refine gives_cell 5 _ rfl ⟨PB, po + 5, none⟩ (.int .u8 ((G 5 : Nat) : Int)) rfl box_byte (fun V hV => ((L2.out.trans (hV.mono L2.out.size)).cell (p := ⟨PB, po + 5, none⟩) HPB.out).trans C5.out) ?_
  go_simp
  refine hK _ ?_
  clear hK K
  refine tree_float rfl rfl (fun K hK => ?_)
  refine gives_to_int _ rfl ((G 5 : Nat) : Int) rfl G5.out ?_
  rw [K5.out]
  go_simp
  refine hK _ ?_
  clear hK K
  refine tree_float rfl rfl (fun K hK => ?_)
  refine gives_move _ rfl ?_
  go_simp
  refine hK _ ?_
  clear hK K
  refine tree_float rfl rfl (fun K hK => ?_)
  refine gives_tail _ _ rfl (some ⟨PB, po, none⟩) n c 8 8 rfl rfl rfl H8.out HNC.out ?_
  intro pd hbh
  have HBH := Lib.hid (show ∀ (V : World), BytesAt V (some ⟨PB, po, none⟩) n G → BytesAt V pd (n - 8) (gF G) from fun V h => by
    have := hbh V G h
    unfold gF
    exact this)
  clear hbh
  go_simp
  refine hK _ ?_
  clear hK K
  refine tree_two ?_ ?_
  · refine tree_one rfl rfl (fun K hK => ?_)
    refine done_bytes0 rfl (gF G) ?_
    intro va1 o l s
    have Ba1 := Lib.hid (B2.out.trans (l.mono B2.out.size))
    have Oa1 := Lib.hid o
    have Ta1 := Lib.hid (show w2.heap.size ≤ w2.drew.heap.size ∧ w2.drew.heap.size + 1 ≤ va1.heap.size from ⟨B2.out.size, Nat.le_of_eq s.symm⟩)
    clear o l s
    refine ⟨Ba1.out, ?_⟩
    go_simp
    refine hK _ _ ?_
    clear hK K
    refine tree_two ?_ ?_
    · refine tree_one rfl rfl (fun K hK => ?_)
      refine done_append_bytes _ _ rfl (w2.drew.heap.size) _ (gF G) (gF G) pd (n - 8) (c - 8) rfl rfl Oa1.out (HBH.out _ (HP.out _ (L2.out.trans (Ba1.out.mono L2.out.size)))) (fun j _ => rfl) (by have := HN.out; omega) (by have := Ta1.out; omega) ?_
      intro qd md vb1 b z kp
      have Bb1 := Lib.hid (Ba1.out.trans (kp.below (M := w2.heap.size) Ba1.out.size (fun j hj e => by have := Ta1.out.1; omega)))
      have Hb1 := Lib.hid b
      have Zb1 := Lib.hid (show ∀ B o, qd = some ⟨B, o, none⟩ → n - 8 ≠ 0 → B < vb1.heap.size from fun B o hq h0 => by
          rcases b with e | ⟨B2, o2, e1, e2, _⟩
          · exact absurd e h0
          · rw [e1] at hq; cases hq; exact e2)
      have ZQ := Lib.hid (show ∀ B o, qd = some ⟨B, o, none⟩ → n - 8 ≠ 0 → w.heap.size < B from fun B o hq h0 => by
          have e1 := X2.out.lt
          have e2 := Ta1.out.1
          have e3 := Ba1.out.size
          rcases z B o hq h0 with e | e <;> omega)
      clear b z kp
      refine ⟨Bb1.out, ?_⟩
      go_simp
      refine hK _ _ ?_
      clear hK K
      refine tree_float rfl rfl (fun K hK => ?_)
      refine gives_fr4 _ _ _ _ rfl kk nn cc qd (n - 8) md rfl rfl rfl rfl ?_
      go_simp
      refine hK _ ?_
      clear hK K
      refine tree_one rfl rfl (fun K hK => ?_)
      refine done_boxA_new rowFr rfl ?_
      intro vb3 y l s
      have Bb3 := Lib.hid (Bb1.out.trans (l.mono Bb1.out.size))
      have Yb3 := Lib.hid y
      have Mb3 := Lib.hid (show w2.heap.size ≤ vb1.heap.size from Bb1.out.size)
      have Hb3 := Lib.hid (Hb1.out.below l)
      have Zb3 := Lib.hid (show ∀ B o, qd = some ⟨B, o, none⟩ → n - 8 ≠ 0 → B ≠ vb1.heap.size from fun B o hq h0 => Nat.ne_of_lt (Zb1.out B o hq h0))
      clear y l s
      refine ⟨Bb3.out, ?_⟩
      go_simp
      refine hK _ _ ?_
      clear hK K
      refine tree_one rfl rfl (fun K hK => ?_)
      refine done_boxA_put rowFr _ _ rfl (vb1.heap.size) (frA kk nn cc qd (n - 8) md) _ (frA_size _ _ _ _ _ _) (frA_one _ _ _ _ _ _) (frA_size _ _ _ _ _ _) rfl rfl Yb3.out ?_
      intro vb4 y kp s
      have Bb4 := Lib.hid (Bb3.out.trans (kp.below (M := w2.heap.size) Bb3.out.size (fun j hj e => by have := Mb3.out; omega)))
      have Yb4 := Lib.hid y
      have Hb4 := Lib.hid (show BytesAt vb4 qd (n - 8) (gF G) from by
          rcases Hb3.out with e | ⟨B2, o2, e1, e2, e3⟩
          · exact .inl e
          · by_cases h0 : n - 8 = 0
            · exact .inl h0
            · exact .inr ⟨B2, o2, e1, Nat.lt_of_lt_of_le e2 kp.size, fun j hj => (World.cell?_of_block (a := ⟨B2, o2 + j, none⟩) (kp.block B2 e2 (Zb3.out B2 o2 e1 h0))).trans (e3 j hj)⟩)
      clear y kp s
      refine ⟨Bb4.out, ?_⟩
      go_simp
      refine hK _ _ ?_
      clear hK K
      refine tree_over ?_
      have P5 := Lib.hid (L2.out.trans (Bb4.out.mono L2.out.size))
      have X5 := Lib.hid (X2.out.keep (Bb4.out.block _ X2.out.lt))
      have LJ := Lib.hid (show w.heap.size < vb1.heap.size from Nat.lt_of_lt_of_le X2.out.lt Mb3.out)
      go_wp2_with (first
        | (with_reducible show wpList _ _ _ (⟨some 34, Op.load 24 _, _, _, _, _⟩ :: _) _ _
           refine wpList_boxA_loadw rowFr _ rfl rfl (vb1.heap.size) (frA kk nn cc qd (n - 8) md) (frA_size _ _ _ _ _ _) rfl Yb4.out ?_)
        | (go_at_call 11
           refine (refEncode_no kk nn cc qd (n - 8) md HIN.out).mono ?_; rintro e w6 ⟨rfl, l6⟩
           have X6 := Lib.hid (X5.out.keep (l6.block _ X5.out.lt))
           have L6 := Lib.hid (P5.out.trans (l6.mono P5.out.size))
           clear l6 X5 P5)
        | (with_reducible show wpList _ _ _ (⟨_, Op.build 24 _, _, _, _, none⟩ :: _) _ _
           refine wpList_build_any rfl 24 #[] #[] (.agg (frA 0 0 0 none 0 0)) rfl (by simp) (fun w => run_build w 24 #[] _ (by kernel_rfl)) ?_)
        | (with_reducible show wpList _ _ _ (⟨_, Op.store 24 (.tmp 2) _, _, _, _, none⟩ :: _) _ _
           refine wpList_boxA_put rowFr rfl _ _ rfl rfl w.heap.size (frA 0 0 0 none 0 0) _ (frA_size _ _ _ _ _ _) (frA_one _ _ _ _ _ _) (frA_size _ _ _ _ _ _) rfl rfl X6.out ?_
           intro w9 x9 k9 s9
           have X9 := Lib.hid x9
           have L9 := Lib.hid (low_put L6.out (Nat.le_refl _) k9)
           clear x9 k9 s9 X6 L6))
      exact bodyPost_ret (results_cell_row_tmp rfl _ _ w.heap.size 24 (frA 0 0 0 none 0 0) (0, 0) _ rfl X9.out Try.underlying24 rfl (by rw [frA_size]; exact rowFr.size)) rfl ⟨rfl, L9.out⟩
      
    · refine tree_one rfl rfl (fun K hK => ?_)
      refine done_boxA_new rowFr rfl ?_
      intro vc1 y l s
      have Bc1 := Lib.hid (Ba1.out.trans (l.mono Ba1.out.size))
      have Yc1 := Lib.hid y
      have Mc1 := Lib.hid (show w2.heap.size ≤ va1.heap.size from Ba1.out.size)
      have Nc1 := Lib.hid (show va1.heap.size ≠ w2.drew.heap.size by have := Ta1.out.2; omega)
      have Oc1 := Lib.hid (Oa1.out.later Ta1.out.2 l)
      have Tc1 := Lib.hid (show w2.heap.size ≤ w2.drew.heap.size ∧ w2.drew.heap.size + 1 ≤ vc1.heap.size from ⟨Ta1.out.1, Nat.le_trans Ta1.out.2 l.size⟩)
      clear y l s
      refine ⟨Bc1.out, ?_⟩
      go_simp
      refine hK _ _ ?_
      clear hK K
      refine tree_one rfl rfl (fun K hK => ?_)
      refine done_append_bytes _ _ rfl (w2.drew.heap.size) _ (gF G) (gF G) pd (n - 8) (c - 8) rfl rfl Oc1.out (HBH.out _ (HP.out _ (L2.out.trans (Bc1.out.mono L2.out.size)))) (fun j _ => rfl) (by have := HN.out; omega) (by have := Tc1.out; omega) ?_
      intro qd md vc2 b z kp
      have Bc2 := Lib.hid (Bc1.out.trans (kp.below (M := w2.heap.size) Bc1.out.size (fun j hj e => by have := Tc1.out.1; omega)))
      have Hc2 := Lib.hid b
      have Yc2 := Lib.hid (Yc1.out.keep (kp.block _ Yc1.out.lt Nc1.out))
      have Zc2 := Lib.hid (show ∀ B o, qd = some ⟨B, o, none⟩ → n - 8 ≠ 0 → B ≠ va1.heap.size from fun B o hq h0 => by
          have e1 := Nc1.out
          have e2 := Yc1.out.lt
          rcases z B o hq h0 with e | e <;> omega)
      have ZQ := Lib.hid (show ∀ B o, qd = some ⟨B, o, none⟩ → n - 8 ≠ 0 → w.heap.size < B from fun B o hq h0 => by
          have e1 := X2.out.lt
          have e2 := Tc1.out.1
          have e3 := Bc1.out.size
          rcases z B o hq h0 with e | e <;> omega)
      clear b z kp
      refine ⟨Bc2.out, ?_⟩
      go_simp
      refine hK _ _ ?_
      clear hK K
      refine tree_float rfl rfl (fun K hK => ?_)
      refine gives_fr4 _ _ _ _ rfl kk nn cc qd (n - 8) md rfl rfl rfl rfl ?_
      go_simp
      refine hK _ ?_
      clear hK K
      refine tree_one rfl rfl (fun K hK => ?_)
      refine done_boxA_put rowFr _ _ rfl (va1.heap.size) (frA kk nn cc qd (n - 8) md) _ (frA_size _ _ _ _ _ _) (frA_one _ _ _ _ _ _) (frA_size _ _ _ _ _ _) rfl rfl Yc2.out ?_
      intro vc4 y kp s
      have Bc4 := Lib.hid (Bc2.out.trans (kp.below (M := w2.heap.size) Bc2.out.size (fun j hj e => by have := Mc1.out; omega)))
      have Yc4 := Lib.hid y
      have Hc4 := Lib.hid (show BytesAt vc4 qd (n - 8) (gF G) from by
          rcases Hc2.out with e | ⟨B2, o2, e1, e2, e3⟩
          · exact .inl e
          · by_cases h0 : n - 8 = 0
            · exact .inl h0
            · exact .inr ⟨B2, o2, e1, Nat.lt_of_lt_of_le e2 kp.size, fun j hj => (World.cell?_of_block (a := ⟨B2, o2 + j, none⟩) (kp.block B2 e2 (Zc2.out B2 o2 e1 h0))).trans (e3 j hj)⟩)
      clear y kp s
      refine ⟨Bc4.out, ?_⟩
      go_simp
      refine hK _ _ ?_
      clear hK K
      refine tree_over ?_
      have P5 := Lib.hid (L2.out.trans (Bc4.out.mono L2.out.size))
      have X5 := Lib.hid (X2.out.keep (Bc4.out.block _ X2.out.lt))
      have LJ := Lib.hid (show w.heap.size < va1.heap.size from Nat.lt_of_lt_of_le X2.out.lt Mc1.out)
      go_wp2_with (first
        | (with_reducible show wpList _ _ _ (⟨some 34, Op.load 24 _, _, _, _, _⟩ :: _) _ _
           refine wpList_boxA_loadw rowFr _ rfl rfl (va1.heap.size) (frA kk nn cc qd (n - 8) md) (frA_size _ _ _ _ _ _) rfl Yc4.out ?_)
        | (go_at_call 11
           refine (refEncode_no kk nn cc qd (n - 8) md HIN.out).mono ?_; rintro e w6 ⟨rfl, l6⟩
           have X6 := Lib.hid (X5.out.keep (l6.block _ X5.out.lt))
           have L6 := Lib.hid (P5.out.trans (l6.mono P5.out.size))
           clear l6 X5 P5)
        | (with_reducible show wpList _ _ _ (⟨_, Op.build 24 _, _, _, _, none⟩ :: _) _ _
           refine wpList_build_any rfl 24 #[] #[] (.agg (frA 0 0 0 none 0 0)) rfl (by simp) (fun w => run_build w 24 #[] _ (by kernel_rfl)) ?_)
        | (with_reducible show wpList _ _ _ (⟨_, Op.store 24 (.tmp 2) _, _, _, _, none⟩ :: _) _ _
           refine wpList_boxA_put rowFr rfl _ _ rfl rfl w.heap.size (frA 0 0 0 none 0 0) _ (frA_size _ _ _ _ _ _) (frA_one _ _ _ _ _ _) (frA_size _ _ _ _ _ _) rfl rfl X6.out ?_
           intro w9 x9 k9 s9
           have X9 := Lib.hid x9
           have L9 := Lib.hid (low_put L6.out (Nat.le_refl _) k9)
           clear x9 k9 s9 X6 L6))
      exact bodyPost_ret (results_cell_row_tmp rfl _ _ w.heap.size 24 (frA 0 0 0 none 0 0) (0, 0) _ rfl X9.out Try.underlying24 rfl (by rw [frA_size]; exact rowFr.size)) rfl ⟨rfl, L9.out⟩
      
  · refine tree_one rfl rfl (fun K hK => ?_)
    refine done_boxA_new rowFr rfl ?_
    intro vd1 y l s
    have Bd1 := Lib.hid (B2.out.trans (l.mono B2.out.size))
    have Yd1 := Lib.hid y
    have Md1 := Lib.hid (show w2.heap.size ≤ w2.drew.heap.size from B2.out.size)
    clear y l s
    refine ⟨Bd1.out, ?_⟩
    go_simp
    refine hK _ _ ?_
    clear hK K
    refine tree_one rfl rfl (fun K hK => ?_)
    refine done_bytes0 rfl (gF G) ?_
    intro vd2 o l s
    have Bd2 := Lib.hid (Bd1.out.trans (l.mono Bd1.out.size))
    have Od2 := Lib.hid o
    have Td2 := Lib.hid (show w2.heap.size ≤ vd1.heap.size ∧ vd1.heap.size + 1 ≤ vd2.heap.size from ⟨Bd1.out.size, Nat.le_of_eq s.symm⟩)
    have Yd2 := Lib.hid (Yd1.out.keep (l.block _ Yd1.out.lt))
    have Nd2 := Lib.hid (show w2.drew.heap.size ≠ vd1.heap.size from Nat.ne_of_lt Yd1.out.lt)
    clear o l s
    refine ⟨Bd2.out, ?_⟩
    go_simp
    refine hK _ _ ?_
    clear hK K
    refine tree_one rfl rfl (fun K hK => ?_)
    refine done_append_bytes _ _ rfl (vd1.heap.size) _ (gF G) (gF G) pd (n - 8) (c - 8) rfl rfl Od2.out (HBH.out _ (HP.out _ (L2.out.trans (Bd2.out.mono L2.out.size)))) (fun j _ => rfl) (by have := HN.out; omega) (by have := Td2.out; omega) ?_
    intro qd md vd3 b z kp
    have Bd3 := Lib.hid (Bd2.out.trans (kp.below (M := w2.heap.size) Bd2.out.size (fun j hj e => by have := Td2.out.1; omega)))
    have Hd3 := Lib.hid b
    have Yd3 := Lib.hid (Yd2.out.keep (kp.block _ Yd2.out.lt Nd2.out))
    have Zd3 := Lib.hid (show ∀ B o, qd = some ⟨B, o, none⟩ → n - 8 ≠ 0 → B ≠ w2.drew.heap.size from fun B o hq h0 => by
        have e1 := Nd2.out
        have e2 := Yd2.out.lt
        rcases z B o hq h0 with e | e <;> omega)
    have ZQ := Lib.hid (show ∀ B o, qd = some ⟨B, o, none⟩ → n - 8 ≠ 0 → w.heap.size < B from fun B o hq h0 => by
        have e1 := X2.out.lt
        have e2 := Td2.out.1
        have e3 := Bd2.out.size
        rcases z B o hq h0 with e | e <;> omega)
    clear b z kp
    refine ⟨Bd3.out, ?_⟩
    go_simp
    refine hK _ _ ?_
    clear hK K
    refine tree_float rfl rfl (fun K hK => ?_)
    refine gives_fr4 _ _ _ _ rfl kk nn cc qd (n - 8) md rfl rfl rfl rfl ?_
    go_simp
    refine hK _ ?_
    clear hK K
    refine tree_one rfl rfl (fun K hK => ?_)
    refine done_boxA_put rowFr _ _ rfl (w2.drew.heap.size) (frA kk nn cc qd (n - 8) md) _ (frA_size _ _ _ _ _ _) (frA_one _ _ _ _ _ _) (frA_size _ _ _ _ _ _) rfl rfl Yd3.out ?_
    intro vd5 y kp s
    have Bd5 := Lib.hid (Bd3.out.trans (kp.below (M := w2.heap.size) Bd3.out.size (fun j hj e => by have := Md1.out; omega)))
    have Yd5 := Lib.hid y
    have Hd5 := Lib.hid (show BytesAt vd5 qd (n - 8) (gF G) from by
        rcases Hd3.out with e | ⟨B2, o2, e1, e2, e3⟩
        · exact .inl e
        · by_cases h0 : n - 8 = 0
          · exact .inl h0
          · exact .inr ⟨B2, o2, e1, Nat.lt_of_lt_of_le e2 kp.size, fun j hj => (World.cell?_of_block (a := ⟨B2, o2 + j, none⟩) (kp.block B2 e2 (Zd3.out B2 o2 e1 h0))).trans (e3 j hj)⟩)
    clear y kp s
    refine ⟨Bd5.out, ?_⟩
    go_simp
    refine hK _ _ ?_
    clear hK K
    refine tree_over ?_
    have P5 := Lib.hid (L2.out.trans (Bd5.out.mono L2.out.size))
    have X5 := Lib.hid (X2.out.keep (Bd5.out.block _ X2.out.lt))
    have LJ := Lib.hid (show w.heap.size < w2.drew.heap.size from Nat.lt_of_lt_of_le X2.out.lt Md1.out)
    go_wp2_with (first
      | (with_reducible show wpList _ _ _ (⟨some 34, Op.load 24 _, _, _, _, _⟩ :: _) _ _
         refine wpList_boxA_loadw rowFr _ rfl rfl (w2.drew.heap.size) (frA kk nn cc qd (n - 8) md) (frA_size _ _ _ _ _ _) rfl Yd5.out ?_)
      | (go_at_call 11
         refine (refEncode_no kk nn cc qd (n - 8) md HIN.out).mono ?_; rintro e w6 ⟨rfl, l6⟩
         have X6 := Lib.hid (X5.out.keep (l6.block _ X5.out.lt))
         have L6 := Lib.hid (P5.out.trans (l6.mono P5.out.size))
         clear l6 X5 P5)
      | (with_reducible show wpList _ _ _ (⟨_, Op.build 24 _, _, _, _, none⟩ :: _) _ _
         refine wpList_build_any rfl 24 #[] #[] (.agg (frA 0 0 0 none 0 0)) rfl (by simp) (fun w => run_build w 24 #[] _ (by kernel_rfl)) ?_)
      | (with_reducible show wpList _ _ _ (⟨_, Op.store 24 (.tmp 2) _, _, _, _, none⟩ :: _) _ _
         refine wpList_boxA_put rowFr rfl _ _ rfl rfl w.heap.size (frA 0 0 0 none 0 0) _ (frA_size _ _ _ _ _ _) (frA_one _ _ _ _ _ _) (frA_size _ _ _ _ _ _) rfl rfl X6.out ?_
         intro w9 x9 k9 s9
         have X9 := Lib.hid x9
         have L9 := Lib.hid (low_put L6.out (Nat.le_refl _) k9)
         clear x9 k9 s9 X6 L6))
    exact bodyPost_ret (results_cell_row_tmp rfl _ _ w.heap.size 24 (frA 0 0 0 none 0 0) (0, 0) _ rfl X9.out Try.underlying24 rfl (by rw [frA_size]; exact rowFr.size)) rfl ⟨rfl, L9.out⟩
    
set_option maxRecDepth 100000 in
set_option maxHeartbeats 8000000 in
theorem refDecode_unlike {w : World} {p : Option Addr} {n c : Nat} {G : Nat → Nat} (hp : BytesAt w p n G) (hG : ∀ j, j < n → G j < 256) (hc : n ≤ c) (hn : n ≤ 100000) (h8 : 8 ≤ n) (hin : inF (kF G) (nF G) (cF G) (n - 8)) (hne : ¬ mk (8 + (n - 8)) (frT (kF G) (nF G) (cF G) (n - 8) (gF G)) = mk n G) :
    Calls Try.prog 17 #[.slice p n c] w fun e w' => e = .returned (.tuple #[.agg (frA 0 0 0 none 0 0), .bool false]) ∧ Below w.heap.size w w' := by
  have HP := Lib.hid (fun (W : World) (hb : Below w.heap.size w W) => hp.below hb)
  have f1 : decide ((n : Int) < 8) = false := by simp; omega
  have f2 : decide (n < 8) = false := by simp; omega
  have HNC := Lib.hid hc
  have H8 := Lib.hid h8
  have HN := Lib.hid hn
  have HIN := Lib.hid hin
  obtain ⟨PB, po, hpe, hPB, hcl⟩ : ∃ B o, p = some ⟨B, o, none⟩ ∧ B < w.heap.size ∧ Cells w B o n G := by
    rcases hp with h | h
    · omega
    · exact h
  have HPB := Lib.hid hPB
  have C0 := Lib.hid (hcl 0 (by omega))
  have C5 := Lib.hid (hcl 5 (by omega))
  have G0 := Lib.hid (show 0 ≤ ((G 0 : Nat) : Int) ∧ ((G 0 : Nat) : Int) < 256 by have := hG 0 (by omega); omega)
  have G5 := Lib.hid (show 0 ≤ ((G 5 : Nat) : Int) ∧ ((G 5 : Nat) : Int) < 256 by have := hG 5 (by omega); omega)
  have K0 := Lib.hid (show ((G 0 : Nat) : Int) = kF G by unfold kF; rfl)
  have K5 := Lib.hid (show ((G 5 : Nat) : Int) = cF G by unfold cF; rfl)
  have NW := Lib.hid (show IntKind.i64.wrap ((valN 4 (fun j => G (1 + j)) : Nat) : Int) = nF G by
    have := valN_lt (g := fun j => G (1 + j)) 4 (fun i hi => hG _ (by omega))
    unfold nF; exact IntWalk.i64_in _ (by omega))
  have TK := Lib.hid (fun (q : Option Addr) (m : Nat) (W : World) (h : BytesAt W q (n - 1) (fun j => G (1 + j))) => refTake_ok q (n - 1) m (fun j => G (1 + j)) (fun i hi => hG _ (by omega)) 4 (.inr (.inr (.inl rfl))) (by omega) W h)
  have HAL : ∀ j, j < 8 + (n - 8) → frT (kF G) (nF G) (cF G) (n - 8) (gF G) j < 256 := frT_lt hin (fun j hj => by unfold gF; exact hG _ (by omega))
  have HEQ := str_eq HAL hG
  have HNE := str_neq HAL hG
  rw [decide_eq_false hne] at HEQ HNE
  clear HAL hne
  clear hp hG hc hn h8 hin hPB hcl
  subst hpe
  generalize hk : kF G = kk at *
  generalize hn' : nF G = nn at *
  generalize hc' : cF G = cc at *
  clear hk hn' hc'
  go_enter Try.func17, Try.ntmps17
  go_wp2_with (first
  | (with_reducible show wpList _ _ _ (⟨some 2, Op.alloc 24, _, _, _, _⟩ :: _) _ _
     refine wpList_boxA_new rowFr rfl rfl w.heap.size rfl ?_
     intro w1 x1 l1 s1
     have X1 := Lib.hid x1
     have L1 := Lib.hid l1
     clear x1 l1 s1)
  | (with_reducible show wpList _ _ _ (⟨some 15, Op.slice 22 _ _ _ _, _, _, _, _⟩ :: _) _ _
     refine wpList_tail rfl _ _ rfl (some ⟨PB, po, none⟩) n c 1 1 rfl rfl rfl (by have := H8.out; omega) HNC.out ?_
     intro p1 hb1 _
     have Q1 := Lib.hid (hb1 _ G (HP.out _ L1.out))
     clear hb1)
  | (go_at_call 29
     refine (TK.out p1 (c - 1) _ Q1.out).mono ?_; rintro e w2 ⟨rfl, hw⟩
     rw [NW.out]
     have X2 := Lib.hid (show BoxA w2 w.heap.size 24 (frA 0 0 0 none 0 0) from hw ▸ X1.out)
     have L2 := Lib.hid (show Below w.heap.size w w2 from hw ▸ L1.out)
     clear hw Q1 TK X1 L1))
  have B2 := Lib.hid (show Below w2.heap.size w2 w2.drew from (Below.refl _ w2).drew)
  refine wp_region_tree (.float 0 (.float 1 (.float 2 (.float 3 (.float 4 (.float 5 (.float 6 (.float 7 (.float 8 (.float 10 (.float 11 (.two 9 (.two 12 (.float 13 (.one 14 (.one 15 .over))) 14 (.one 12 (.float 13 (.one 15 .over)))) 14 (.one 9 (.one 12 (.float 13 (.one 15 .over)))))))))))))))) (fun V => Below w2.heap.size w2 V) (by kernel_rfl) (by kernel_rfl) B2.out ?_
  refine tree_float rfl rfl (fun K hK => ?_)
  refine gives_move _ rfl ?_
  go_simp
  refine hK _ ?_
  clear hK K
  refine tree_float rfl rfl (fun K hK => ?_)
  refine gives_at _ _ rfl PB po n c 0 0 rfl rfl rfl (by have := H8.out; omega) ?_
  go_simp
  refine hK _ ?_
  clear hK K
  refine tree_float rfl rfl (fun K hK => ?_)
  refine gives_cell 5 _ rfl ⟨PB, po + 0, none⟩ (.int .u8 ((G 0 : Nat) : Int)) rfl box_byte (fun V hV => ((L2.out.trans (hV.mono L2.out.size)).cell (p := ⟨PB, po + 0, none⟩) HPB.out).trans C0.out) ?_
  go_simp
  refine hK _ ?_
  clear hK K
  refine tree_float rfl rfl (fun K hK => ?_)
  refine gives_to_int _ rfl ((G 0 : Nat) : Int) rfl G0.out ?_
  rw [K0.out]
  go_simp
  refine hK _ ?_
  clear hK K
  refine tree_float rfl rfl (fun K hK => ?_)
  refine gives_move _ rfl ?_
  go_simp
  refine hK _ ?_
  clear hK K
  refine tree_float rfl rfl (fun K hK => ?_)
  refine gives_move _ rfl ?_
  go_simp
  refine hK _ ?_
  clear hK K
  refine tree_float rfl rfl (fun K hK => ?_)
  refine gives_at _ _ rfl PB po n c 5 5 rfl rfl rfl (by have := H8.out; omega) ?_
  go_simp
  refine hK _ ?_
  clear hK K
  refine tree_float rfl rfl (fun K hK => ?_)
  refine gives_cell 5 _ rfl ⟨PB, po + 5, none⟩ (.int .u8 ((G 5 : Nat) : Int)) rfl box_byte (fun V hV => ((L2.out.trans (hV.mono L2.out.size)).cell (p := ⟨PB, po + 5, none⟩) HPB.out).trans C5.out) ?_
  go_simp
  refine hK _ ?_
  clear hK K
  refine tree_float rfl rfl (fun K hK => ?_)
  refine gives_to_int _ rfl ((G 5 : Nat) : Int) rfl G5.out ?_
  rw [K5.out]
  go_simp
  refine hK _ ?_
  clear hK K
  refine tree_float rfl rfl (fun K hK => ?_)
  refine gives_move _ rfl ?_
  go_simp
  refine hK _ ?_
  clear hK K
  refine tree_float rfl rfl (fun K hK => ?_)
  refine gives_tail _ _ rfl (some ⟨PB, po, none⟩) n c 8 8 rfl rfl rfl H8.out HNC.out ?_
  intro pd hbh
  have HBH := Lib.hid (show ∀ (V : World), BytesAt V (some ⟨PB, po, none⟩) n G → BytesAt V pd (n - 8) (gF G) from fun V h => by
    have := hbh V G h
    unfold gF
    exact this)
  clear hbh
  go_simp
  refine hK _ ?_
  clear hK K
  refine tree_two ?_ ?_
  · refine tree_one rfl rfl (fun K hK => ?_)
    refine done_bytes0 rfl (gF G) ?_
    intro va1 o l s
    have Ba1 := Lib.hid (B2.out.trans (l.mono B2.out.size))
    have Oa1 := Lib.hid o
    have Ta1 := Lib.hid (show w2.heap.size ≤ w2.drew.heap.size ∧ w2.drew.heap.size + 1 ≤ va1.heap.size from ⟨B2.out.size, Nat.le_of_eq s.symm⟩)
    clear o l s
    refine ⟨Ba1.out, ?_⟩
    go_simp
    refine hK _ _ ?_
    clear hK K
    refine tree_two ?_ ?_
    · refine tree_one rfl rfl (fun K hK => ?_)
      refine done_append_bytes _ _ rfl (w2.drew.heap.size) _ (gF G) (gF G) pd (n - 8) (c - 8) rfl rfl Oa1.out (HBH.out _ (HP.out _ (L2.out.trans (Ba1.out.mono L2.out.size)))) (fun j _ => rfl) (by have := HN.out; omega) (by have := Ta1.out; omega) ?_
      intro qd md vb1 b z kp
      have Bb1 := Lib.hid (Ba1.out.trans (kp.below (M := w2.heap.size) Ba1.out.size (fun j hj e => by have := Ta1.out.1; omega)))
      have Hb1 := Lib.hid b
      have Zb1 := Lib.hid (show ∀ B o, qd = some ⟨B, o, none⟩ → n - 8 ≠ 0 → B < vb1.heap.size from fun B o hq h0 => by
          rcases b with e | ⟨B2, o2, e1, e2, _⟩
          · exact absurd e h0
          · rw [e1] at hq; cases hq; exact e2)
      have ZQ := Lib.hid (show ∀ B o, qd = some ⟨B, o, none⟩ → n - 8 ≠ 0 → w.heap.size < B from fun B o hq h0 => by
          have e1 := X2.out.lt
          have e2 := Ta1.out.1
          have e3 := Ba1.out.size
          rcases z B o hq h0 with e | e <;> omega)
      clear b z kp
      refine ⟨Bb1.out, ?_⟩
      go_simp
      refine hK _ _ ?_
      clear hK K
      refine tree_float rfl rfl (fun K hK => ?_)
      refine gives_fr4 _ _ _ _ rfl kk nn cc qd (n - 8) md rfl rfl rfl rfl ?_
      go_simp
      refine hK _ ?_
      clear hK K
      refine tree_one rfl rfl (fun K hK => ?_)
      refine done_boxA_new rowFr rfl ?_
      intro vb3 y l s
      have Bb3 := Lib.hid (Bb1.out.trans (l.mono Bb1.out.size))
      have Yb3 := Lib.hid y
      have Mb3 := Lib.hid (show w2.heap.size ≤ vb1.heap.size from Bb1.out.size)
      have Hb3 := Lib.hid (Hb1.out.below l)
      have Zb3 := Lib.hid (show ∀ B o, qd = some ⟨B, o, none⟩ → n - 8 ≠ 0 → B ≠ vb1.heap.size from fun B o hq h0 => Nat.ne_of_lt (Zb1.out B o hq h0))
      clear y l s
      refine ⟨Bb3.out, ?_⟩
      go_simp
      refine hK _ _ ?_
      clear hK K
      refine tree_one rfl rfl (fun K hK => ?_)
      refine done_boxA_put rowFr _ _ rfl (vb1.heap.size) (frA kk nn cc qd (n - 8) md) _ (frA_size _ _ _ _ _ _) (frA_one _ _ _ _ _ _) (frA_size _ _ _ _ _ _) rfl rfl Yb3.out ?_
      intro vb4 y kp s
      have Bb4 := Lib.hid (Bb3.out.trans (kp.below (M := w2.heap.size) Bb3.out.size (fun j hj e => by have := Mb3.out; omega)))
      have Yb4 := Lib.hid y
      have Hb4 := Lib.hid (show BytesAt vb4 qd (n - 8) (gF G) from by
          rcases Hb3.out with e | ⟨B2, o2, e1, e2, e3⟩
          · exact .inl e
          · by_cases h0 : n - 8 = 0
            · exact .inl h0
            · exact .inr ⟨B2, o2, e1, Nat.lt_of_lt_of_le e2 kp.size, fun j hj => (World.cell?_of_block (a := ⟨B2, o2 + j, none⟩) (kp.block B2 e2 (Zb3.out B2 o2 e1 h0))).trans (e3 j hj)⟩)
      clear y kp s
      refine ⟨Bb4.out, ?_⟩
      go_simp
      refine hK _ _ ?_
      clear hK K
      refine tree_over ?_
      have P5 := Lib.hid (L2.out.trans (Bb4.out.mono L2.out.size))
      have X5 := Lib.hid (X2.out.keep (Bb4.out.block _ X2.out.lt))
      have LJ := Lib.hid (show w.heap.size < vb1.heap.size from Nat.lt_of_lt_of_le X2.out.lt Mb3.out)
      go_wp2_with (first
        | (with_reducible show wpList _ _ _ (⟨some 34, Op.load 24 _, _, _, _, _⟩ :: _) _ _
           refine wpList_boxA_loadw rowFr _ rfl rfl (vb1.heap.size) (frA kk nn cc qd (n - 8) md) (frA_size _ _ _ _ _ _) rfl Yb4.out ?_)
        | (go_at_call 11
           refine (refEncode_ok kk nn cc (cd := md) HIN.out Hb4.out).mono ?_; rintro e w6 ⟨q6, c6, rfl, b6, l6⟩
           have X6 := Lib.hid (X5.out.keep (l6.block _ X5.out.lt))
           have L6 := Lib.hid (P5.out.trans (l6.mono P5.out.size))
           have Y6 := Lib.hid (Yb4.out.keep (l6.block _ Yb4.out.lt))
           have H6 := Lib.hid (Hb4.out.below l6)
           have C6 := Lib.hid b6
           clear l6 b6 X5 P5)
        | (with_reducible show wpList _ _ _ (⟨some 42, Op.convert _ _ _, _, _, _, _⟩ :: _) _ _
           refine wpList_string_w rfl _ rfl q6 (8 + (n - 8)) c6 rfl (frT kk nn cc (n - 8) (gF G)) C6.out ?_)
        | (with_reducible show wpList _ _ _ (⟨some 44, Op.convert _ _ _, _, _, _, _⟩ :: _) _ _
           refine wpList_string_w rfl _ rfl (some ⟨PB, po, none⟩) n c rfl G (HP.out _ L6.out) ?_)
        | (with_reducible show wpList _ _ _ (⟨_, Op.build 24 _, _, _, _, none⟩ :: _) _ _
           refine wpList_build_any rfl 24 #[] #[] (.agg (frA 0 0 0 none 0 0)) rfl (by simp) (fun w => run_build w 24 #[] _ (by kernel_rfl)) ?_)
        | (with_reducible show wpList _ _ _ (⟨_, Op.store 24 (.tmp 2) _, _, _, _, none⟩ :: _) _ _
           refine wpList_boxA_put rowFr rfl _ _ rfl rfl w.heap.size (frA 0 0 0 none 0 0) _ (frA_size _ _ _ _ _ _) (frA_one _ _ _ _ _ _) (frA_size _ _ _ _ _ _) rfl rfl X6.out ?_
           intro w9 x9 k9 s9
           have X9 := Lib.hid x9
           have L9 := Lib.hid (low_put L6.out (Nat.le_refl _) k9)
           clear x9 k9 s9 X6 L6))
      exact bodyPost_ret (results_cell_row_tmp rfl _ _ w.heap.size 24 (frA 0 0 0 none 0 0) (0, 0) _ rfl X9.out Try.underlying24 rfl (by rw [frA_size]; exact rowFr.size)) rfl ⟨rfl, L9.out⟩
      
    · refine tree_one rfl rfl (fun K hK => ?_)
      refine done_boxA_new rowFr rfl ?_
      intro vc1 y l s
      have Bc1 := Lib.hid (Ba1.out.trans (l.mono Ba1.out.size))
      have Yc1 := Lib.hid y
      have Mc1 := Lib.hid (show w2.heap.size ≤ va1.heap.size from Ba1.out.size)
      have Nc1 := Lib.hid (show va1.heap.size ≠ w2.drew.heap.size by have := Ta1.out.2; omega)
      have Oc1 := Lib.hid (Oa1.out.later Ta1.out.2 l)
      have Tc1 := Lib.hid (show w2.heap.size ≤ w2.drew.heap.size ∧ w2.drew.heap.size + 1 ≤ vc1.heap.size from ⟨Ta1.out.1, Nat.le_trans Ta1.out.2 l.size⟩)
      clear y l s
      refine ⟨Bc1.out, ?_⟩
      go_simp
      refine hK _ _ ?_
      clear hK K
      refine tree_one rfl rfl (fun K hK => ?_)
      refine done_append_bytes _ _ rfl (w2.drew.heap.size) _ (gF G) (gF G) pd (n - 8) (c - 8) rfl rfl Oc1.out (HBH.out _ (HP.out _ (L2.out.trans (Bc1.out.mono L2.out.size)))) (fun j _ => rfl) (by have := HN.out; omega) (by have := Tc1.out; omega) ?_
      intro qd md vc2 b z kp
      have Bc2 := Lib.hid (Bc1.out.trans (kp.below (M := w2.heap.size) Bc1.out.size (fun j hj e => by have := Tc1.out.1; omega)))
      have Hc2 := Lib.hid b
      have Yc2 := Lib.hid (Yc1.out.keep (kp.block _ Yc1.out.lt Nc1.out))
      have Zc2 := Lib.hid (show ∀ B o, qd = some ⟨B, o, none⟩ → n - 8 ≠ 0 → B ≠ va1.heap.size from fun B o hq h0 => by
          have e1 := Nc1.out
          have e2 := Yc1.out.lt
          rcases z B o hq h0 with e | e <;> omega)
      have ZQ := Lib.hid (show ∀ B o, qd = some ⟨B, o, none⟩ → n - 8 ≠ 0 → w.heap.size < B from fun B o hq h0 => by
          have e1 := X2.out.lt
          have e2 := Tc1.out.1
          have e3 := Bc1.out.size
          rcases z B o hq h0 with e | e <;> omega)
      clear b z kp
      refine ⟨Bc2.out, ?_⟩
      go_simp
      refine hK _ _ ?_
      clear hK K
      refine tree_float rfl rfl (fun K hK => ?_)
      refine gives_fr4 _ _ _ _ rfl kk nn cc qd (n - 8) md rfl rfl rfl rfl ?_
      go_simp
      refine hK _ ?_
      clear hK K
      refine tree_one rfl rfl (fun K hK => ?_)
      refine done_boxA_put rowFr _ _ rfl (va1.heap.size) (frA kk nn cc qd (n - 8) md) _ (frA_size _ _ _ _ _ _) (frA_one _ _ _ _ _ _) (frA_size _ _ _ _ _ _) rfl rfl Yc2.out ?_
      intro vc4 y kp s
      have Bc4 := Lib.hid (Bc2.out.trans (kp.below (M := w2.heap.size) Bc2.out.size (fun j hj e => by have := Mc1.out; omega)))
      have Yc4 := Lib.hid y
      have Hc4 := Lib.hid (show BytesAt vc4 qd (n - 8) (gF G) from by
          rcases Hc2.out with e | ⟨B2, o2, e1, e2, e3⟩
          · exact .inl e
          · by_cases h0 : n - 8 = 0
            · exact .inl h0
            · exact .inr ⟨B2, o2, e1, Nat.lt_of_lt_of_le e2 kp.size, fun j hj => (World.cell?_of_block (a := ⟨B2, o2 + j, none⟩) (kp.block B2 e2 (Zc2.out B2 o2 e1 h0))).trans (e3 j hj)⟩)
      clear y kp s
      refine ⟨Bc4.out, ?_⟩
      go_simp
      refine hK _ _ ?_
      clear hK K
      refine tree_over ?_
      have P5 := Lib.hid (L2.out.trans (Bc4.out.mono L2.out.size))
      have X5 := Lib.hid (X2.out.keep (Bc4.out.block _ X2.out.lt))
      have LJ := Lib.hid (show w.heap.size < va1.heap.size from Nat.lt_of_lt_of_le X2.out.lt Mc1.out)
      go_wp2_with (first
        | (with_reducible show wpList _ _ _ (⟨some 34, Op.load 24 _, _, _, _, _⟩ :: _) _ _
           refine wpList_boxA_loadw rowFr _ rfl rfl (va1.heap.size) (frA kk nn cc qd (n - 8) md) (frA_size _ _ _ _ _ _) rfl Yc4.out ?_)
        | (go_at_call 11
           refine (refEncode_ok kk nn cc (cd := md) HIN.out Hc4.out).mono ?_; rintro e w6 ⟨q6, c6, rfl, b6, l6⟩
           have X6 := Lib.hid (X5.out.keep (l6.block _ X5.out.lt))
           have L6 := Lib.hid (P5.out.trans (l6.mono P5.out.size))
           have Y6 := Lib.hid (Yc4.out.keep (l6.block _ Yc4.out.lt))
           have H6 := Lib.hid (Hc4.out.below l6)
           have C6 := Lib.hid b6
           clear l6 b6 X5 P5)
        | (with_reducible show wpList _ _ _ (⟨some 42, Op.convert _ _ _, _, _, _, _⟩ :: _) _ _
           refine wpList_string_w rfl _ rfl q6 (8 + (n - 8)) c6 rfl (frT kk nn cc (n - 8) (gF G)) C6.out ?_)
        | (with_reducible show wpList _ _ _ (⟨some 44, Op.convert _ _ _, _, _, _, _⟩ :: _) _ _
           refine wpList_string_w rfl _ rfl (some ⟨PB, po, none⟩) n c rfl G (HP.out _ L6.out) ?_)
        | (with_reducible show wpList _ _ _ (⟨_, Op.build 24 _, _, _, _, none⟩ :: _) _ _
           refine wpList_build_any rfl 24 #[] #[] (.agg (frA 0 0 0 none 0 0)) rfl (by simp) (fun w => run_build w 24 #[] _ (by kernel_rfl)) ?_)
        | (with_reducible show wpList _ _ _ (⟨_, Op.store 24 (.tmp 2) _, _, _, _, none⟩ :: _) _ _
           refine wpList_boxA_put rowFr rfl _ _ rfl rfl w.heap.size (frA 0 0 0 none 0 0) _ (frA_size _ _ _ _ _ _) (frA_one _ _ _ _ _ _) (frA_size _ _ _ _ _ _) rfl rfl X6.out ?_
           intro w9 x9 k9 s9
           have X9 := Lib.hid x9
           have L9 := Lib.hid (low_put L6.out (Nat.le_refl _) k9)
           clear x9 k9 s9 X6 L6))
      exact bodyPost_ret (results_cell_row_tmp rfl _ _ w.heap.size 24 (frA 0 0 0 none 0 0) (0, 0) _ rfl X9.out Try.underlying24 rfl (by rw [frA_size]; exact rowFr.size)) rfl ⟨rfl, L9.out⟩
      
  · refine tree_one rfl rfl (fun K hK => ?_)
    refine done_boxA_new rowFr rfl ?_
    intro vd1 y l s
    have Bd1 := Lib.hid (B2.out.trans (l.mono B2.out.size))
    have Yd1 := Lib.hid y
    have Md1 := Lib.hid (show w2.heap.size ≤ w2.drew.heap.size from B2.out.size)
    clear y l s
    refine ⟨Bd1.out, ?_⟩
    go_simp
    refine hK _ _ ?_
    clear hK K
    refine tree_one rfl rfl (fun K hK => ?_)
    refine done_bytes0 rfl (gF G) ?_
    intro vd2 o l s
    have Bd2 := Lib.hid (Bd1.out.trans (l.mono Bd1.out.size))
    have Od2 := Lib.hid o
    have Td2 := Lib.hid (show w2.heap.size ≤ vd1.heap.size ∧ vd1.heap.size + 1 ≤ vd2.heap.size from ⟨Bd1.out.size, Nat.le_of_eq s.symm⟩)
    have Yd2 := Lib.hid (Yd1.out.keep (l.block _ Yd1.out.lt))
    have Nd2 := Lib.hid (show w2.drew.heap.size ≠ vd1.heap.size from Nat.ne_of_lt Yd1.out.lt)
    clear o l s
    refine ⟨Bd2.out, ?_⟩
    go_simp
    refine hK _ _ ?_
    clear hK K
    refine tree_one rfl rfl (fun K hK => ?_)
    refine done_append_bytes _ _ rfl (vd1.heap.size) _ (gF G) (gF G) pd (n - 8) (c - 8) rfl rfl Od2.out (HBH.out _ (HP.out _ (L2.out.trans (Bd2.out.mono L2.out.size)))) (fun j _ => rfl) (by have := HN.out; omega) (by have := Td2.out; omega) ?_
    intro qd md vd3 b z kp
    have Bd3 := Lib.hid (Bd2.out.trans (kp.below (M := w2.heap.size) Bd2.out.size (fun j hj e => by have := Td2.out.1; omega)))
    have Hd3 := Lib.hid b
    have Yd3 := Lib.hid (Yd2.out.keep (kp.block _ Yd2.out.lt Nd2.out))
    have Zd3 := Lib.hid (show ∀ B o, qd = some ⟨B, o, none⟩ → n - 8 ≠ 0 → B ≠ w2.drew.heap.size from fun B o hq h0 => by
        have e1 := Nd2.out
        have e2 := Yd2.out.lt
        rcases z B o hq h0 with e | e <;> omega)
    have ZQ := Lib.hid (show ∀ B o, qd = some ⟨B, o, none⟩ → n - 8 ≠ 0 → w.heap.size < B from fun B o hq h0 => by
        have e1 := X2.out.lt
        have e2 := Td2.out.1
        have e3 := Bd2.out.size
        rcases z B o hq h0 with e | e <;> omega)
    clear b z kp
    refine ⟨Bd3.out, ?_⟩
    go_simp
    refine hK _ _ ?_
    clear hK K
    refine tree_float rfl rfl (fun K hK => ?_)
    refine gives_fr4 _ _ _ _ rfl kk nn cc qd (n - 8) md rfl rfl rfl rfl ?_
    go_simp
    refine hK _ ?_
    clear hK K
    refine tree_one rfl rfl (fun K hK => ?_)
    refine done_boxA_put rowFr _ _ rfl (w2.drew.heap.size) (frA kk nn cc qd (n - 8) md) _ (frA_size _ _ _ _ _ _) (frA_one _ _ _ _ _ _) (frA_size _ _ _ _ _ _) rfl rfl Yd3.out ?_
    intro vd5 y kp s
    have Bd5 := Lib.hid (Bd3.out.trans (kp.below (M := w2.heap.size) Bd3.out.size (fun j hj e => by have := Md1.out; omega)))
    have Yd5 := Lib.hid y
    have Hd5 := Lib.hid (show BytesAt vd5 qd (n - 8) (gF G) from by
        rcases Hd3.out with e | ⟨B2, o2, e1, e2, e3⟩
        · exact .inl e
        · by_cases h0 : n - 8 = 0
          · exact .inl h0
          · exact .inr ⟨B2, o2, e1, Nat.lt_of_lt_of_le e2 kp.size, fun j hj => (World.cell?_of_block (a := ⟨B2, o2 + j, none⟩) (kp.block B2 e2 (Zd3.out B2 o2 e1 h0))).trans (e3 j hj)⟩)
    clear y kp s
    refine ⟨Bd5.out, ?_⟩
    go_simp
    refine hK _ _ ?_
    clear hK K
    refine tree_over ?_
    have P5 := Lib.hid (L2.out.trans (Bd5.out.mono L2.out.size))
    have X5 := Lib.hid (X2.out.keep (Bd5.out.block _ X2.out.lt))
    have LJ := Lib.hid (show w.heap.size < w2.drew.heap.size from Nat.lt_of_lt_of_le X2.out.lt Md1.out)
    go_wp2_with (first
      | (with_reducible show wpList _ _ _ (⟨some 34, Op.load 24 _, _, _, _, _⟩ :: _) _ _
         refine wpList_boxA_loadw rowFr _ rfl rfl (w2.drew.heap.size) (frA kk nn cc qd (n - 8) md) (frA_size _ _ _ _ _ _) rfl Yd5.out ?_)
      | (go_at_call 11
         refine (refEncode_ok kk nn cc (cd := md) HIN.out Hd5.out).mono ?_; rintro e w6 ⟨q6, c6, rfl, b6, l6⟩
         have X6 := Lib.hid (X5.out.keep (l6.block _ X5.out.lt))
         have L6 := Lib.hid (P5.out.trans (l6.mono P5.out.size))
         have Y6 := Lib.hid (Yd5.out.keep (l6.block _ Yd5.out.lt))
         have H6 := Lib.hid (Hd5.out.below l6)
         have C6 := Lib.hid b6
         clear l6 b6 X5 P5)
      | (with_reducible show wpList _ _ _ (⟨some 42, Op.convert _ _ _, _, _, _, _⟩ :: _) _ _
         refine wpList_string_w rfl _ rfl q6 (8 + (n - 8)) c6 rfl (frT kk nn cc (n - 8) (gF G)) C6.out ?_)
      | (with_reducible show wpList _ _ _ (⟨some 44, Op.convert _ _ _, _, _, _, _⟩ :: _) _ _
         refine wpList_string_w rfl _ rfl (some ⟨PB, po, none⟩) n c rfl G (HP.out _ L6.out) ?_)
      | (with_reducible show wpList _ _ _ (⟨_, Op.build 24 _, _, _, _, none⟩ :: _) _ _
         refine wpList_build_any rfl 24 #[] #[] (.agg (frA 0 0 0 none 0 0)) rfl (by simp) (fun w => run_build w 24 #[] _ (by kernel_rfl)) ?_)
      | (with_reducible show wpList _ _ _ (⟨_, Op.store 24 (.tmp 2) _, _, _, _, none⟩ :: _) _ _
         refine wpList_boxA_put rowFr rfl _ _ rfl rfl w.heap.size (frA 0 0 0 none 0 0) _ (frA_size _ _ _ _ _ _) (frA_one _ _ _ _ _ _) (frA_size _ _ _ _ _ _) rfl rfl X6.out ?_
         intro w9 x9 k9 s9
         have X9 := Lib.hid x9
         have L9 := Lib.hid (low_put L6.out (Nat.le_refl _) k9)
         clear x9 k9 s9 X6 L6))
    exact bodyPost_ret (results_cell_row_tmp rfl _ _ w.heap.size 24 (frA 0 0 0 none 0 0) (0, 0) _ rfl X9.out Try.underlying24 rfl (by rw [frA_size]; exact rowFr.size)) rfl ⟨rfl, L9.out⟩
    
set_option maxRecDepth 100000 in
set_option maxHeartbeats 8000000 in
theorem refDecode_yes {w : World} {p : Option Addr} {n c : Nat} {G : Nat → Nat} (hp : BytesAt w p n G) (hG : ∀ j, j < n → G j < 256) (hc : n ≤ c) (hn : n ≤ 100000) (h8 : 8 ≤ n) (hin : inF (kF G) (nF G) (cF G) (n - 8)) (hne : mk (8 + (n - 8)) (frT (kF G) (nF G) (cF G) (n - 8) (gF G)) = mk n G) :
    Calls Try.prog 17 #[.slice p n c] w fun e w' => ∃ q m, e = .returned (.tuple #[.agg (frA (kF G) (nF G) (cF G) q (n - 8) m), .bool true]) ∧ BytesAt w' q (n - 8) (gF G) ∧ Below w.heap.size w w' := by
  have HP := Lib.hid (fun (W : World) (hb : Below w.heap.size w W) => hp.below hb)
  have f1 : decide ((n : Int) < 8) = false := by simp; omega
  have f2 : decide (n < 8) = false := by simp; omega
  have HNC := Lib.hid hc
  have H8 := Lib.hid h8
  have HN := Lib.hid hn
  have HIN := Lib.hid hin
  obtain ⟨PB, po, hpe, hPB, hcl⟩ : ∃ B o, p = some ⟨B, o, none⟩ ∧ B < w.heap.size ∧ Cells w B o n G := by
    rcases hp with h | h
    · omega
    · exact h
  have HPB := Lib.hid hPB
  have C0 := Lib.hid (hcl 0 (by omega))
  have C5 := Lib.hid (hcl 5 (by omega))
  have G0 := Lib.hid (show 0 ≤ ((G 0 : Nat) : Int) ∧ ((G 0 : Nat) : Int) < 256 by have := hG 0 (by omega); omega)
  have G5 := Lib.hid (show 0 ≤ ((G 5 : Nat) : Int) ∧ ((G 5 : Nat) : Int) < 256 by have := hG 5 (by omega); omega)
  have K0 := Lib.hid (show ((G 0 : Nat) : Int) = kF G by unfold kF; rfl)
  have K5 := Lib.hid (show ((G 5 : Nat) : Int) = cF G by unfold cF; rfl)
  have NW := Lib.hid (show IntKind.i64.wrap ((valN 4 (fun j => G (1 + j)) : Nat) : Int) = nF G by
    have := valN_lt (g := fun j => G (1 + j)) 4 (fun i hi => hG _ (by omega))
    unfold nF; exact IntWalk.i64_in _ (by omega))
  have TK := Lib.hid (fun (q : Option Addr) (m : Nat) (W : World) (h : BytesAt W q (n - 1) (fun j => G (1 + j))) => refTake_ok q (n - 1) m (fun j => G (1 + j)) (fun i hi => hG _ (by omega)) 4 (.inr (.inr (.inl rfl))) (by omega) W h)
  have HAL : ∀ j, j < 8 + (n - 8) → frT (kF G) (nF G) (cF G) (n - 8) (gF G) j < 256 := frT_lt hin (fun j hj => by unfold gF; exact hG _ (by omega))
  have HEQ := str_eq HAL hG
  have HNE := str_neq HAL hG
  rw [decide_eq_true hne] at HEQ HNE
  clear HAL hne
  clear hp hG hc hn h8 hin hPB hcl
  subst hpe
  generalize hk : kF G = kk at *
  generalize hn' : nF G = nn at *
  generalize hc' : cF G = cc at *
  clear hk hn' hc'
  go_enter Try.func17, Try.ntmps17
  go_wp2_with (first
  | (with_reducible show wpList _ _ _ (⟨some 2, Op.alloc 24, _, _, _, _⟩ :: _) _ _
     refine wpList_boxA_new rowFr rfl rfl w.heap.size rfl ?_
     intro w1 x1 l1 s1
     have X1 := Lib.hid x1
     have L1 := Lib.hid l1
     clear x1 l1 s1)
  | (with_reducible show wpList _ _ _ (⟨some 15, Op.slice 22 _ _ _ _, _, _, _, _⟩ :: _) _ _
     refine wpList_tail rfl _ _ rfl (some ⟨PB, po, none⟩) n c 1 1 rfl rfl rfl (by have := H8.out; omega) HNC.out ?_
     intro p1 hb1 _
     have Q1 := Lib.hid (hb1 _ G (HP.out _ L1.out))
     clear hb1)
  | (go_at_call 29
     refine (TK.out p1 (c - 1) _ Q1.out).mono ?_; rintro e w2 ⟨rfl, hw⟩
     rw [NW.out]
     have X2 := Lib.hid (show BoxA w2 w.heap.size 24 (frA 0 0 0 none 0 0) from hw ▸ X1.out)
     have L2 := Lib.hid (show Below w.heap.size w w2 from hw ▸ L1.out)
     clear hw Q1 TK X1 L1))
  have B2 := Lib.hid (show Below w2.heap.size w2 w2.drew from (Below.refl _ w2).drew)
  refine wp_region_tree (.float 0 (.float 1 (.float 2 (.float 3 (.float 4 (.float 5 (.float 6 (.float 7 (.float 8 (.float 10 (.float 11 (.two 9 (.two 12 (.float 13 (.one 14 (.one 15 .over))) 14 (.one 12 (.float 13 (.one 15 .over)))) 14 (.one 9 (.one 12 (.float 13 (.one 15 .over)))))))))))))))) (fun V => Below w2.heap.size w2 V) (by kernel_rfl) (by kernel_rfl) B2.out ?_
  refine tree_float rfl rfl (fun K hK => ?_)
  refine gives_move _ rfl ?_
  go_simp
  refine hK _ ?_
  clear hK K
  refine tree_float rfl rfl (fun K hK => ?_)
  refine gives_at _ _ rfl PB po n c 0 0 rfl rfl rfl (by have := H8.out; omega) ?_
  go_simp
  refine hK _ ?_
  clear hK K
  refine tree_float rfl rfl (fun K hK => ?_)
  refine gives_cell 5 _ rfl ⟨PB, po + 0, none⟩ (.int .u8 ((G 0 : Nat) : Int)) rfl box_byte (fun V hV => ((L2.out.trans (hV.mono L2.out.size)).cell (p := ⟨PB, po + 0, none⟩) HPB.out).trans C0.out) ?_
  go_simp
  refine hK _ ?_
  clear hK K
  refine tree_float rfl rfl (fun K hK => ?_)
  refine gives_to_int _ rfl ((G 0 : Nat) : Int) rfl G0.out ?_
  rw [K0.out]
  go_simp
  refine hK _ ?_
  clear hK K
  refine tree_float rfl rfl (fun K hK => ?_)
  refine gives_move _ rfl ?_
  go_simp
  refine hK _ ?_
  clear hK K
  refine tree_float rfl rfl (fun K hK => ?_)
  refine gives_move _ rfl ?_
  go_simp
  refine hK _ ?_
  clear hK K
  refine tree_float rfl rfl (fun K hK => ?_)
  refine gives_at _ _ rfl PB po n c 5 5 rfl rfl rfl (by have := H8.out; omega) ?_
  go_simp
  refine hK _ ?_
  clear hK K
  refine tree_float rfl rfl (fun K hK => ?_)
  refine gives_cell 5 _ rfl ⟨PB, po + 5, none⟩ (.int .u8 ((G 5 : Nat) : Int)) rfl box_byte (fun V hV => ((L2.out.trans (hV.mono L2.out.size)).cell (p := ⟨PB, po + 5, none⟩) HPB.out).trans C5.out) ?_
  go_simp
  refine hK _ ?_
  clear hK K
  refine tree_float rfl rfl (fun K hK => ?_)
  refine gives_to_int _ rfl ((G 5 : Nat) : Int) rfl G5.out ?_
  rw [K5.out]
  go_simp
  refine hK _ ?_
  clear hK K
  refine tree_float rfl rfl (fun K hK => ?_)
  refine gives_move _ rfl ?_
  go_simp
  refine hK _ ?_
  clear hK K
  refine tree_float rfl rfl (fun K hK => ?_)
  refine gives_tail _ _ rfl (some ⟨PB, po, none⟩) n c 8 8 rfl rfl rfl H8.out HNC.out ?_
  intro pd hbh
  have HBH := Lib.hid (show ∀ (V : World), BytesAt V (some ⟨PB, po, none⟩) n G → BytesAt V pd (n - 8) (gF G) from fun V h => by
    have := hbh V G h
    unfold gF
    exact this)
  clear hbh
  go_simp
  refine hK _ ?_
  clear hK K
  refine tree_two ?_ ?_
  · refine tree_one rfl rfl (fun K hK => ?_)
    refine done_bytes0 rfl (gF G) ?_
    intro va1 o l s
    have Ba1 := Lib.hid (B2.out.trans (l.mono B2.out.size))
    have Oa1 := Lib.hid o
    have Ta1 := Lib.hid (show w2.heap.size ≤ w2.drew.heap.size ∧ w2.drew.heap.size + 1 ≤ va1.heap.size from ⟨B2.out.size, Nat.le_of_eq s.symm⟩)
    clear o l s
    refine ⟨Ba1.out, ?_⟩
    go_simp
    refine hK _ _ ?_
    clear hK K
    refine tree_two ?_ ?_
    · refine tree_one rfl rfl (fun K hK => ?_)
      refine done_append_bytes _ _ rfl (w2.drew.heap.size) _ (gF G) (gF G) pd (n - 8) (c - 8) rfl rfl Oa1.out (HBH.out _ (HP.out _ (L2.out.trans (Ba1.out.mono L2.out.size)))) (fun j _ => rfl) (by have := HN.out; omega) (by have := Ta1.out; omega) ?_
      intro qd md vb1 b z kp
      have Bb1 := Lib.hid (Ba1.out.trans (kp.below (M := w2.heap.size) Ba1.out.size (fun j hj e => by have := Ta1.out.1; omega)))
      have Hb1 := Lib.hid b
      have Zb1 := Lib.hid (show ∀ B o, qd = some ⟨B, o, none⟩ → n - 8 ≠ 0 → B < vb1.heap.size from fun B o hq h0 => by
          rcases b with e | ⟨B2, o2, e1, e2, _⟩
          · exact absurd e h0
          · rw [e1] at hq; cases hq; exact e2)
      have ZQ := Lib.hid (show ∀ B o, qd = some ⟨B, o, none⟩ → n - 8 ≠ 0 → w.heap.size < B from fun B o hq h0 => by
          have e1 := X2.out.lt
          have e2 := Ta1.out.1
          have e3 := Ba1.out.size
          rcases z B o hq h0 with e | e <;> omega)
      clear b z kp
      refine ⟨Bb1.out, ?_⟩
      go_simp
      refine hK _ _ ?_
      clear hK K
      refine tree_float rfl rfl (fun K hK => ?_)
      refine gives_fr4 _ _ _ _ rfl kk nn cc qd (n - 8) md rfl rfl rfl rfl ?_
      go_simp
      refine hK _ ?_
      clear hK K
      refine tree_one rfl rfl (fun K hK => ?_)
      refine done_boxA_new rowFr rfl ?_
      intro vb3 y l s
      have Bb3 := Lib.hid (Bb1.out.trans (l.mono Bb1.out.size))
      have Yb3 := Lib.hid y
      have Mb3 := Lib.hid (show w2.heap.size ≤ vb1.heap.size from Bb1.out.size)
      have Hb3 := Lib.hid (Hb1.out.below l)
      have Zb3 := Lib.hid (show ∀ B o, qd = some ⟨B, o, none⟩ → n - 8 ≠ 0 → B ≠ vb1.heap.size from fun B o hq h0 => Nat.ne_of_lt (Zb1.out B o hq h0))
      clear y l s
      refine ⟨Bb3.out, ?_⟩
      go_simp
      refine hK _ _ ?_
      clear hK K
      refine tree_one rfl rfl (fun K hK => ?_)
      refine done_boxA_put rowFr _ _ rfl (vb1.heap.size) (frA kk nn cc qd (n - 8) md) _ (frA_size _ _ _ _ _ _) (frA_one _ _ _ _ _ _) (frA_size _ _ _ _ _ _) rfl rfl Yb3.out ?_
      intro vb4 y kp s
      have Bb4 := Lib.hid (Bb3.out.trans (kp.below (M := w2.heap.size) Bb3.out.size (fun j hj e => by have := Mb3.out; omega)))
      have Yb4 := Lib.hid y
      have Hb4 := Lib.hid (show BytesAt vb4 qd (n - 8) (gF G) from by
          rcases Hb3.out with e | ⟨B2, o2, e1, e2, e3⟩
          · exact .inl e
          · by_cases h0 : n - 8 = 0
            · exact .inl h0
            · exact .inr ⟨B2, o2, e1, Nat.lt_of_lt_of_le e2 kp.size, fun j hj => (World.cell?_of_block (a := ⟨B2, o2 + j, none⟩) (kp.block B2 e2 (Zb3.out B2 o2 e1 h0))).trans (e3 j hj)⟩)
      clear y kp s
      refine ⟨Bb4.out, ?_⟩
      go_simp
      refine hK _ _ ?_
      clear hK K
      refine tree_over ?_
      have P5 := Lib.hid (L2.out.trans (Bb4.out.mono L2.out.size))
      have X5 := Lib.hid (X2.out.keep (Bb4.out.block _ X2.out.lt))
      have LJ := Lib.hid (show w.heap.size < vb1.heap.size from Nat.lt_of_lt_of_le X2.out.lt Mb3.out)
      go_wp2_with (first
        | (with_reducible show wpList _ _ _ (⟨some 34, Op.load 24 _, _, _, _, _⟩ :: _) _ _
           refine wpList_boxA_loadw rowFr _ rfl rfl (vb1.heap.size) (frA kk nn cc qd (n - 8) md) (frA_size _ _ _ _ _ _) rfl Yb4.out ?_)
        | (go_at_call 11
           refine (refEncode_ok kk nn cc (cd := md) HIN.out Hb4.out).mono ?_; rintro e w6 ⟨q6, c6, rfl, b6, l6⟩
           have X6 := Lib.hid (X5.out.keep (l6.block _ X5.out.lt))
           have L6 := Lib.hid (P5.out.trans (l6.mono P5.out.size))
           have Y6 := Lib.hid (Yb4.out.keep (l6.block _ Yb4.out.lt))
           have H6 := Lib.hid (Hb4.out.below l6)
           have C6 := Lib.hid b6
           clear l6 b6 X5 P5)
        | (with_reducible show wpList _ _ _ (⟨some 42, Op.convert _ _ _, _, _, _, _⟩ :: _) _ _
           refine wpList_string_w rfl _ rfl q6 (8 + (n - 8)) c6 rfl (frT kk nn cc (n - 8) (gF G)) C6.out ?_)
        | (with_reducible show wpList _ _ _ (⟨some 44, Op.convert _ _ _, _, _, _, _⟩ :: _) _ _
           refine wpList_string_w rfl _ rfl (some ⟨PB, po, none⟩) n c rfl G (HP.out _ L6.out) ?_)
        | (with_reducible show wpList _ _ _ (⟨some 48, Op.load 24 _, _, _, _, _⟩ :: _) _ _
           refine wpList_boxA_loadw rowFr _ rfl rfl (vb1.heap.size) (frA kk nn cc qd (n - 8) md) (frA_size _ _ _ _ _ _) rfl Y6.out ?_)
        | (with_reducible show wpList _ _ _ (⟨_, Op.store 24 (.tmp 2) _, _, _, _, none⟩ :: _) _ _
           refine wpList_boxA_put rowFr rfl _ _ rfl rfl w.heap.size (frA kk nn cc qd (n - 8) md) _ (frA_size _ _ _ _ _ _) (frA_one _ _ _ _ _ _) (frA_size _ _ _ _ _ _) rfl rfl X6.out ?_
           intro w9 x9 k9 s9
           have X9 := Lib.hid x9
           have L9 := Lib.hid (low_put L6.out (Nat.le_refl _) k9)
           have H9 := Lib.hid (show BytesAt w9 qd (n - 8) (gF G) from by
             rcases H6.out with e | ⟨B2, o2, e1, e2, e3⟩
             · exact .inl e
             · by_cases h0 : n - 8 = 0
               · exact .inl h0
               · exact .inr ⟨B2, o2, e1, Nat.lt_of_lt_of_le e2 k9.size, fun j hj => (World.cell?_of_block (a := ⟨B2, o2 + j, none⟩) (k9.block B2 e2 (Nat.ne_of_gt (ZQ.out B2 o2 e1 h0)))).trans (e3 j hj)⟩)
           clear x9 k9 s9 X6 L6))
      exact bodyPost_ret (results_cell_row_tmp rfl _ _ w.heap.size 24 (frA kk nn cc qd (n - 8) md) (0, 0) _ rfl X9.out Try.underlying24 rfl (by rw [frA_size]; exact rowFr.size)) rfl ⟨qd, md, rfl, H9.out, L9.out⟩
      
    · refine tree_one rfl rfl (fun K hK => ?_)
      refine done_boxA_new rowFr rfl ?_
      intro vc1 y l s
      have Bc1 := Lib.hid (Ba1.out.trans (l.mono Ba1.out.size))
      have Yc1 := Lib.hid y
      have Mc1 := Lib.hid (show w2.heap.size ≤ va1.heap.size from Ba1.out.size)
      have Nc1 := Lib.hid (show va1.heap.size ≠ w2.drew.heap.size by have := Ta1.out.2; omega)
      have Oc1 := Lib.hid (Oa1.out.later Ta1.out.2 l)
      have Tc1 := Lib.hid (show w2.heap.size ≤ w2.drew.heap.size ∧ w2.drew.heap.size + 1 ≤ vc1.heap.size from ⟨Ta1.out.1, Nat.le_trans Ta1.out.2 l.size⟩)
      clear y l s
      refine ⟨Bc1.out, ?_⟩
      go_simp
      refine hK _ _ ?_
      clear hK K
      refine tree_one rfl rfl (fun K hK => ?_)
      refine done_append_bytes _ _ rfl (w2.drew.heap.size) _ (gF G) (gF G) pd (n - 8) (c - 8) rfl rfl Oc1.out (HBH.out _ (HP.out _ (L2.out.trans (Bc1.out.mono L2.out.size)))) (fun j _ => rfl) (by have := HN.out; omega) (by have := Tc1.out; omega) ?_
      intro qd md vc2 b z kp
      have Bc2 := Lib.hid (Bc1.out.trans (kp.below (M := w2.heap.size) Bc1.out.size (fun j hj e => by have := Tc1.out.1; omega)))
      have Hc2 := Lib.hid b
      have Yc2 := Lib.hid (Yc1.out.keep (kp.block _ Yc1.out.lt Nc1.out))
      have Zc2 := Lib.hid (show ∀ B o, qd = some ⟨B, o, none⟩ → n - 8 ≠ 0 → B ≠ va1.heap.size from fun B o hq h0 => by
          have e1 := Nc1.out
          have e2 := Yc1.out.lt
          rcases z B o hq h0 with e | e <;> omega)
      have ZQ := Lib.hid (show ∀ B o, qd = some ⟨B, o, none⟩ → n - 8 ≠ 0 → w.heap.size < B from fun B o hq h0 => by
          have e1 := X2.out.lt
          have e2 := Tc1.out.1
          have e3 := Bc1.out.size
          rcases z B o hq h0 with e | e <;> omega)
      clear b z kp
      refine ⟨Bc2.out, ?_⟩
      go_simp
      refine hK _ _ ?_
      clear hK K
      refine tree_float rfl rfl (fun K hK => ?_)
      refine gives_fr4 _ _ _ _ rfl kk nn cc qd (n - 8) md rfl rfl rfl rfl ?_
      go_simp
      refine hK _ ?_
      clear hK K
      refine tree_one rfl rfl (fun K hK => ?_)
      refine done_boxA_put rowFr _ _ rfl (va1.heap.size) (frA kk nn cc qd (n - 8) md) _ (frA_size _ _ _ _ _ _) (frA_one _ _ _ _ _ _) (frA_size _ _ _ _ _ _) rfl rfl Yc2.out ?_
      intro vc4 y kp s
      have Bc4 := Lib.hid (Bc2.out.trans (kp.below (M := w2.heap.size) Bc2.out.size (fun j hj e => by have := Mc1.out; omega)))
      have Yc4 := Lib.hid y
      have Hc4 := Lib.hid (show BytesAt vc4 qd (n - 8) (gF G) from by
          rcases Hc2.out with e | ⟨B2, o2, e1, e2, e3⟩
          · exact .inl e
          · by_cases h0 : n - 8 = 0
            · exact .inl h0
            · exact .inr ⟨B2, o2, e1, Nat.lt_of_lt_of_le e2 kp.size, fun j hj => (World.cell?_of_block (a := ⟨B2, o2 + j, none⟩) (kp.block B2 e2 (Zc2.out B2 o2 e1 h0))).trans (e3 j hj)⟩)
      clear y kp s
      refine ⟨Bc4.out, ?_⟩
      go_simp
      refine hK _ _ ?_
      clear hK K
      refine tree_over ?_
      have P5 := Lib.hid (L2.out.trans (Bc4.out.mono L2.out.size))
      have X5 := Lib.hid (X2.out.keep (Bc4.out.block _ X2.out.lt))
      have LJ := Lib.hid (show w.heap.size < va1.heap.size from Nat.lt_of_lt_of_le X2.out.lt Mc1.out)
      go_wp2_with (first
        | (with_reducible show wpList _ _ _ (⟨some 34, Op.load 24 _, _, _, _, _⟩ :: _) _ _
           refine wpList_boxA_loadw rowFr _ rfl rfl (va1.heap.size) (frA kk nn cc qd (n - 8) md) (frA_size _ _ _ _ _ _) rfl Yc4.out ?_)
        | (go_at_call 11
           refine (refEncode_ok kk nn cc (cd := md) HIN.out Hc4.out).mono ?_; rintro e w6 ⟨q6, c6, rfl, b6, l6⟩
           have X6 := Lib.hid (X5.out.keep (l6.block _ X5.out.lt))
           have L6 := Lib.hid (P5.out.trans (l6.mono P5.out.size))
           have Y6 := Lib.hid (Yc4.out.keep (l6.block _ Yc4.out.lt))
           have H6 := Lib.hid (Hc4.out.below l6)
           have C6 := Lib.hid b6
           clear l6 b6 X5 P5)
        | (with_reducible show wpList _ _ _ (⟨some 42, Op.convert _ _ _, _, _, _, _⟩ :: _) _ _
           refine wpList_string_w rfl _ rfl q6 (8 + (n - 8)) c6 rfl (frT kk nn cc (n - 8) (gF G)) C6.out ?_)
        | (with_reducible show wpList _ _ _ (⟨some 44, Op.convert _ _ _, _, _, _, _⟩ :: _) _ _
           refine wpList_string_w rfl _ rfl (some ⟨PB, po, none⟩) n c rfl G (HP.out _ L6.out) ?_)
        | (with_reducible show wpList _ _ _ (⟨some 48, Op.load 24 _, _, _, _, _⟩ :: _) _ _
           refine wpList_boxA_loadw rowFr _ rfl rfl (va1.heap.size) (frA kk nn cc qd (n - 8) md) (frA_size _ _ _ _ _ _) rfl Y6.out ?_)
        | (with_reducible show wpList _ _ _ (⟨_, Op.store 24 (.tmp 2) _, _, _, _, none⟩ :: _) _ _
           refine wpList_boxA_put rowFr rfl _ _ rfl rfl w.heap.size (frA kk nn cc qd (n - 8) md) _ (frA_size _ _ _ _ _ _) (frA_one _ _ _ _ _ _) (frA_size _ _ _ _ _ _) rfl rfl X6.out ?_
           intro w9 x9 k9 s9
           have X9 := Lib.hid x9
           have L9 := Lib.hid (low_put L6.out (Nat.le_refl _) k9)
           have H9 := Lib.hid (show BytesAt w9 qd (n - 8) (gF G) from by
             rcases H6.out with e | ⟨B2, o2, e1, e2, e3⟩
             · exact .inl e
             · by_cases h0 : n - 8 = 0
               · exact .inl h0
               · exact .inr ⟨B2, o2, e1, Nat.lt_of_lt_of_le e2 k9.size, fun j hj => (World.cell?_of_block (a := ⟨B2, o2 + j, none⟩) (k9.block B2 e2 (Nat.ne_of_gt (ZQ.out B2 o2 e1 h0)))).trans (e3 j hj)⟩)
           clear x9 k9 s9 X6 L6))
      exact bodyPost_ret (results_cell_row_tmp rfl _ _ w.heap.size 24 (frA kk nn cc qd (n - 8) md) (0, 0) _ rfl X9.out Try.underlying24 rfl (by rw [frA_size]; exact rowFr.size)) rfl ⟨qd, md, rfl, H9.out, L9.out⟩
      
  · refine tree_one rfl rfl (fun K hK => ?_)
    refine done_boxA_new rowFr rfl ?_
    intro vd1 y l s
    have Bd1 := Lib.hid (B2.out.trans (l.mono B2.out.size))
    have Yd1 := Lib.hid y
    have Md1 := Lib.hid (show w2.heap.size ≤ w2.drew.heap.size from B2.out.size)
    clear y l s
    refine ⟨Bd1.out, ?_⟩
    go_simp
    refine hK _ _ ?_
    clear hK K
    refine tree_one rfl rfl (fun K hK => ?_)
    refine done_bytes0 rfl (gF G) ?_
    intro vd2 o l s
    have Bd2 := Lib.hid (Bd1.out.trans (l.mono Bd1.out.size))
    have Od2 := Lib.hid o
    have Td2 := Lib.hid (show w2.heap.size ≤ vd1.heap.size ∧ vd1.heap.size + 1 ≤ vd2.heap.size from ⟨Bd1.out.size, Nat.le_of_eq s.symm⟩)
    have Yd2 := Lib.hid (Yd1.out.keep (l.block _ Yd1.out.lt))
    have Nd2 := Lib.hid (show w2.drew.heap.size ≠ vd1.heap.size from Nat.ne_of_lt Yd1.out.lt)
    clear o l s
    refine ⟨Bd2.out, ?_⟩
    go_simp
    refine hK _ _ ?_
    clear hK K
    refine tree_one rfl rfl (fun K hK => ?_)
    refine done_append_bytes _ _ rfl (vd1.heap.size) _ (gF G) (gF G) pd (n - 8) (c - 8) rfl rfl Od2.out (HBH.out _ (HP.out _ (L2.out.trans (Bd2.out.mono L2.out.size)))) (fun j _ => rfl) (by have := HN.out; omega) (by have := Td2.out; omega) ?_
    intro qd md vd3 b z kp
    have Bd3 := Lib.hid (Bd2.out.trans (kp.below (M := w2.heap.size) Bd2.out.size (fun j hj e => by have := Td2.out.1; omega)))
    have Hd3 := Lib.hid b
    have Yd3 := Lib.hid (Yd2.out.keep (kp.block _ Yd2.out.lt Nd2.out))
    have Zd3 := Lib.hid (show ∀ B o, qd = some ⟨B, o, none⟩ → n - 8 ≠ 0 → B ≠ w2.drew.heap.size from fun B o hq h0 => by
        have e1 := Nd2.out
        have e2 := Yd2.out.lt
        rcases z B o hq h0 with e | e <;> omega)
    have ZQ := Lib.hid (show ∀ B o, qd = some ⟨B, o, none⟩ → n - 8 ≠ 0 → w.heap.size < B from fun B o hq h0 => by
        have e1 := X2.out.lt
        have e2 := Td2.out.1
        have e3 := Bd2.out.size
        rcases z B o hq h0 with e | e <;> omega)
    clear b z kp
    refine ⟨Bd3.out, ?_⟩
    go_simp
    refine hK _ _ ?_
    clear hK K
    refine tree_float rfl rfl (fun K hK => ?_)
    refine gives_fr4 _ _ _ _ rfl kk nn cc qd (n - 8) md rfl rfl rfl rfl ?_
    go_simp
    refine hK _ ?_
    clear hK K
    refine tree_one rfl rfl (fun K hK => ?_)
    refine done_boxA_put rowFr _ _ rfl (w2.drew.heap.size) (frA kk nn cc qd (n - 8) md) _ (frA_size _ _ _ _ _ _) (frA_one _ _ _ _ _ _) (frA_size _ _ _ _ _ _) rfl rfl Yd3.out ?_
    intro vd5 y kp s
    have Bd5 := Lib.hid (Bd3.out.trans (kp.below (M := w2.heap.size) Bd3.out.size (fun j hj e => by have := Md1.out; omega)))
    have Yd5 := Lib.hid y
    have Hd5 := Lib.hid (show BytesAt vd5 qd (n - 8) (gF G) from by
        rcases Hd3.out with e | ⟨B2, o2, e1, e2, e3⟩
        · exact .inl e
        · by_cases h0 : n - 8 = 0
          · exact .inl h0
          · exact .inr ⟨B2, o2, e1, Nat.lt_of_lt_of_le e2 kp.size, fun j hj => (World.cell?_of_block (a := ⟨B2, o2 + j, none⟩) (kp.block B2 e2 (Zd3.out B2 o2 e1 h0))).trans (e3 j hj)⟩)
    clear y kp s
    refine ⟨Bd5.out, ?_⟩
    go_simp
    refine hK _ _ ?_
    clear hK K
    refine tree_over ?_
    have P5 := Lib.hid (L2.out.trans (Bd5.out.mono L2.out.size))
    have X5 := Lib.hid (X2.out.keep (Bd5.out.block _ X2.out.lt))
    have LJ := Lib.hid (show w.heap.size < w2.drew.heap.size from Nat.lt_of_lt_of_le X2.out.lt Md1.out)
    go_wp2_with (first
      | (with_reducible show wpList _ _ _ (⟨some 34, Op.load 24 _, _, _, _, _⟩ :: _) _ _
         refine wpList_boxA_loadw rowFr _ rfl rfl (w2.drew.heap.size) (frA kk nn cc qd (n - 8) md) (frA_size _ _ _ _ _ _) rfl Yd5.out ?_)
      | (go_at_call 11
         refine (refEncode_ok kk nn cc (cd := md) HIN.out Hd5.out).mono ?_; rintro e w6 ⟨q6, c6, rfl, b6, l6⟩
         have X6 := Lib.hid (X5.out.keep (l6.block _ X5.out.lt))
         have L6 := Lib.hid (P5.out.trans (l6.mono P5.out.size))
         have Y6 := Lib.hid (Yd5.out.keep (l6.block _ Yd5.out.lt))
         have H6 := Lib.hid (Hd5.out.below l6)
         have C6 := Lib.hid b6
         clear l6 b6 X5 P5)
      | (with_reducible show wpList _ _ _ (⟨some 42, Op.convert _ _ _, _, _, _, _⟩ :: _) _ _
         refine wpList_string_w rfl _ rfl q6 (8 + (n - 8)) c6 rfl (frT kk nn cc (n - 8) (gF G)) C6.out ?_)
      | (with_reducible show wpList _ _ _ (⟨some 44, Op.convert _ _ _, _, _, _, _⟩ :: _) _ _
         refine wpList_string_w rfl _ rfl (some ⟨PB, po, none⟩) n c rfl G (HP.out _ L6.out) ?_)
      | (with_reducible show wpList _ _ _ (⟨some 48, Op.load 24 _, _, _, _, _⟩ :: _) _ _
         refine wpList_boxA_loadw rowFr _ rfl rfl (w2.drew.heap.size) (frA kk nn cc qd (n - 8) md) (frA_size _ _ _ _ _ _) rfl Y6.out ?_)
      | (with_reducible show wpList _ _ _ (⟨_, Op.store 24 (.tmp 2) _, _, _, _, none⟩ :: _) _ _
         refine wpList_boxA_put rowFr rfl _ _ rfl rfl w.heap.size (frA kk nn cc qd (n - 8) md) _ (frA_size _ _ _ _ _ _) (frA_one _ _ _ _ _ _) (frA_size _ _ _ _ _ _) rfl rfl X6.out ?_
         intro w9 x9 k9 s9
         have X9 := Lib.hid x9
         have L9 := Lib.hid (low_put L6.out (Nat.le_refl _) k9)
         have H9 := Lib.hid (show BytesAt w9 qd (n - 8) (gF G) from by
           rcases H6.out with e | ⟨B2, o2, e1, e2, e3⟩
           · exact .inl e
           · by_cases h0 : n - 8 = 0
             · exact .inl h0
             · exact .inr ⟨B2, o2, e1, Nat.lt_of_lt_of_le e2 k9.size, fun j hj => (World.cell?_of_block (a := ⟨B2, o2 + j, none⟩) (k9.block B2 e2 (Nat.ne_of_gt (ZQ.out B2 o2 e1 h0)))).trans (e3 j hj)⟩)
         clear x9 k9 s9 X6 L6))
    exact bodyPost_ret (results_cell_row_tmp rfl _ _ w.heap.size 24 (frA kk nn cc qd (n - 8) md) (0, 0) _ rfl X9.out Try.underlying24 rfl (by rw [frA_size]; exact rowFr.size)) rfl ⟨qd, md, rfl, H9.out, L9.out⟩
    
theorem refDecode_no {w : World} {p : Option Addr} {n c : Nat} {G : Nat → Nat} (hp : BytesAt w p n G) (hG : ∀ j, j < n → G j < 256) (hc : n ≤ c) (hn : n ≤ 100000) (h : ¬ isF n G) :
    Calls Try.prog 17 #[.slice p n c] w fun e w' => e = .returned (.tuple #[.agg (frA 0 0 0 none 0 0), .bool false]) ∧ Below w.heap.size w w' := by
  by_cases h8 : n < 8
  · exact refDecode_short h8
  · by_cases hi : inF (kF G) (nF G) (cF G) (n - 8)
    · refine refDecode_unlike hp hG hc hn (by omega) hi (fun e => h ⟨by omega, hi, fun j hj => ?_⟩)
      rw [show 8 + (n - 8) = n by omega] at e
      have := congrArg (fun l => l.getD j 0) e
      simp only [mk_get hj] at this
      omega
    · exact refDecode_bad hp hG hc hn (by omega) hi
theorem refDecode_ok {w : World} {p : Option Addr} {n c : Nat} {G : Nat → Nat} (hp : BytesAt w p n G) (hG : ∀ j, j < n → G j < 256) (hc : n ≤ c) (hn : n ≤ 100000) (h : isF n G) :
    Calls Try.prog 17 #[.slice p n c] w fun e w' => ∃ q m, e = .returned (.tuple #[.agg (frA (kF G) (nF G) (cF G) q (n - 8) m), .bool true]) ∧ BytesAt w' q (n - 8) (gF G) ∧ Below w.heap.size w w' := by
  obtain ⟨h8, hi, he⟩ := h
  refine refDecode_yes hp hG hc hn h8 hi ?_
  rw [show 8 + (n - 8) = n by omega]
  exact mk_ext he
end Go.Proofs.Ytebbnkkhabehmaa

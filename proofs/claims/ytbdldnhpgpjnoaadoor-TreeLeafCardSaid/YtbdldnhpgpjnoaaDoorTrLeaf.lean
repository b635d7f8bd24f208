/- The contracts of package tree's Leaf and of citadelref11's Leaf. Conditions: the package's variable holds the constants; the key has no more than 80,000 bytes; a sector has 128. -/
import Derived.Test.YtbdldnhpgpjnoaaDoorTrNode
namespace Go.Proofs.YtbdldnhpgpjnoaaDoor
open Go.ChangeShapes Go.WideShapes Go.ChangeAt Go.RowKit
set_option linter.unusedVariables false
section
variable {ops : Array Oper} {rest : List Oper} {o : Oper} {a : Act} {w : World} {Q : Exit → Act → World → Prop}
theorem wpList_cell_box (hgd : o.guard = none) (x : Operand) (ho : o.op = .box 24 x) (f : Nat → Nat) (hx : a.eval x = .agg (cellsOf .u8 (mk 128 f))) (S : Nat) (hS : w.heap.size = S)
    (h : ∀ w', BytesAt w' (some ⟨S, 0, none⟩) 128 f → Below S w w' → w'.heap.size = S + 1 → wpList Tryd.prog ops Q rest (a.put o.dst (.pointer (some ⟨S, 0, none⟩))) w') : wpList Tryd.prog ops Q (o :: rest) a w :=
  wpList_plain hgd fun K hK => by
    subst hS
    unfold Oper.wp execOp
    simp only [ho, hx]
    simp [go_sem]
    exact hK _ _ (h _ (IntBlk.new w .u8 24 (mk 128 f)).bytesAt ((Below.refl _ _).alloc (Nat.le_refl _) _) (by simp))
theorem wpList_slice2 (hgd : o.guard = none) (x y : Operand) (ho : o.op = .buildSlice 76 2 #[(0, x), (1, y)]) (p q : Option Addr) (n m cp cq : Nat) (hx : a.eval x = .slice p n cp) (hy : a.eval y = .slice q m cq)
    (h : ∀ w', w'.cell? ⟨w.heap.size, 0, none⟩ = some (.slice p n cp) → w'.cell? ⟨w.heap.size, 1, none⟩ = some (.slice q m cq) → w'.heap.size = w.heap.size + 1 → Below w.heap.size w w' → wpList Tryd.prog ops Q rest (a.put o.dst (.slice (some ⟨w.heap.size, 0, none⟩) 2 2)) w') : wpList Tryd.prog ops Q (o :: rest) a w :=
  wpList_plain hgd fun K hK => by
    have e := run_slice2 p q n m cp cq w
    have cs := two_cells w (.slice p n cp) (.slice q m cq) 22
    unfold Oper.wp execOp
    simp only [ho]
    simp [hx, hy, e]
    exact hK _ _ (h _ cs.1 cs.2 (by simp) ((Below.refl _ _).alloc (Nat.le_refl _) _))
end
attribute [local irreducible] nought tauK leafText sumVal sumC
theorem results_sum2 {fn : Func} {p : Tmp} (h : fn.results = #[.cell p 27]) (tmps : Array Value) (w : World) (B : Nat) (t : List Int) (hp : tmps.getD p undef = .pointer (some ⟨B, 0, none⟩)) (hB : w.rangeAt B 0 (sumC t)) :
    (results fn tmps).run Tryd.prog w = .ok (sumVal t) w := by
  have hp' : tmps[p]?.getD undef = .pointer (some ⟨B, 0, none⟩) := by simpa using hp
  rw [sumVal_cells]
  simp [results, h, hp', asAddr, run_loadVar_mid w B 0 27 (sumC t) _ hB Tryd.underlying27 rfl (sumC_size t)]
set_option maxRecDepth 100000 in
set_option maxHeartbeats 4000000 in
theorem Leaf_any (kp : Option Addr) (n kc : Nat) (g : Nat → Nat) (hn : n ≤ 80000) (z : Int) (f : Nat → Nat) (hf : ∀ i, i < 128 → f i < 256) (w : World) (hk : KeyAt w kp n kc g) :
    Calls Tryd.prog 12 #[.slice kp n kc, .int .i64 z, .agg (cellsOf .u8 (mk 128 f))] w fun e w' => e = .returned (sumVal (tauK n g (leafText (IntKind.u8.wrap z) (mk 128 f)))) ∧ Below w.heap.size w w' := by
  have TG := Lib.hid (fun A L B c (W : World) h1 h2 h3 h4 h5 h6 => tag_leaf (kp := kp) (n := n) (kc := kc) (g := g) hn (z := IntKind.u8.wrap z) (m := 128) (f := f) (isB_wrap z) hf (A := A) (L := L) (B := B) (c := c) (w := W) h1 h2 h3 h4 h5 h6)
  have YB := Lib.hid (pair_bytes (x := 1) (z := IntKind.u8.wrap z) ⟨by decide, by decide⟩ (isB_wrap z))
  have HK := Lib.hid (fun (W : World) (hb : Below w.heap.size w W) => hk.below hb)
  clear hk hn hf
  generalize hzz : IntKind.u8.wrap z = zz at *
  have HZZ := Lib.hid hzz
  clear hzz
  generalize hS : w.heap.size = S at *
  have HS := Lib.hid hS
  clear hS
  go_enter Tryd.func12, Tryd.ntmps12
  go_wp2_with (first
    | (refine wpList_cell_box rfl _ rfl f rfl S HS.out ?_; intro w1 hL hb hs
       have L1 := Lib.hid hL; have B1 := Lib.hid hb; have S1 := Lib.hid hs; clear hL hb hs)
    | (refine wpList_sum_alloc rfl rfl (S + 1) S1.out ?_; intro w2 hD hb hs
       rw [← S1.out] at hb
       have L2 := Lib.hid (L1.out.below hb); have D2 := Lib.hid hD; have B2 := Lib.hid (B1.out.trans (hb.mono (by rw [S1.out]; omega))); have S2 := Lib.hid hs; clear hD hb hs L1 B1)
    | (refine wpList_bytes2 rfl _ _ rfl 1 zz rfl (by show Value.int .u8 (IntKind.u8.wrap z) = _; rw [HZZ.out]) ?_; intro w3 ho hb hs
       have L3 := Lib.hid (L2.out.below hb); have D3 := Lib.hid (D2.out.below hb); have A3 := Lib.hid (own_bytesAt ho YB.out); have B3 := Lib.hid (B2.out.trans (hb.mono (HS.out ▸ B2.out.size))); clear ho hb hs L2 D2 B2)
    | (refine wpList_arr_slice rfl 24 5 128 secUnder rfl _ rfl S 0 rfl ?_)
    | (refine wpList_slice2 rfl _ _ rfl (some ⟨w2.heap.size, 0, none⟩) (some ⟨S, 0, none⟩) 2 128 2 128 rfl rfl ?_; intro w4 h0 h1 hs hb
       have L4 := Lib.hid (L3.out.below hb); have D4 := Lib.hid (D3.out.below hb); have A4 := Lib.hid (A3.out.below hb); have C40 := Lib.hid h0; have C41 := Lib.hid h1; have B4 := Lib.hid (B3.out.trans (hb.mono (HS.out ▸ B3.out.size)))
       have Z4 := Lib.hid (show w3.heap.size < w4.heap.size by omega); clear h0 h1 hs hb L3 D3 A3 B3)
    | (go_at_call 26
       refine (TG.out w2.heap.size S w3.heap.size 2 w4 (HK.out _ B4.out) A4.out L4.out Z4.out C40.out C41.out).mono ?_; rintro e w5 ⟨rfl, hb⟩
       have D5 := Lib.hid (D4.out.below hb); have B5 := Lib.hid (B4.out.trans (hb.mono (HS.out ▸ B4.out.size))); clear hb L4 D4 A4 C40 C41 B4 Z4 TG)
    | (refine wpList_sum_store rfl _ _ rfl rfl (S + 1) 0 rfl (tauK n g (leafText zz (mk 128 f))) rfl [nought] D5.out (by decide) ?_; intro w6 hD hb hs
       have D6 := Lib.hid hD; have B6 := Lib.hid (B5.out.trans (hb.below (by omega) (HS.out ▸ B5.out.size))); clear hD hb hs))
  exact bodyPost_ret (results_sum2 rfl _ _ (S + 1) (tauK n g (leafText zz (mk 128 f))) rfl D6.out.one) rfl ⟨rfl, B6.out⟩
set_option maxRecDepth 100000 in
set_option maxHeartbeats 4000000 in
theorem refLeaf_any (kp : Option Addr) (n kc : Nat) (g : Nat → Nat) (hn : n ≤ 80000) (z : Int) (f : Nat → Nat) (hf : ∀ i, i < 128 → f i < 256) (w : World) (hk : KeyAt w kp n kc g) :
    Calls Tryd.prog 13 #[.slice kp n kc, .int .i64 z, .agg (cellsOf .u8 (mk 128 f))] w fun e w' => e = .returned (sumVal (tauK n g (leafText (IntKind.u8.wrap z) (mk 128 f)))) ∧ Below w.heap.size w w' := by
  have TL := Lib.hid (show (leafText (IntKind.u8.wrap z) (mk 128 f)).length = 130 by unfold leafText; rw [List.length_append, mk_len]; rfl)
  have TG := Lib.hid (fun (P : Option Addr) c (W : World) h1 h2 => ref_tag (kp := kp) (n := n) (kc := kc) (g := g) hn (leafText_bytes (isB_wrap z) (mk_bytes hf)) (by rw [TL.out]; decide) (p := P) (c := c) (w := W) h1 h2)
  have RL := Lib.hid (fun (W : World) B (h : BytesAt W (some ⟨B, 0, none⟩) 128 f) => bytes_rows (l := mk 128 f) (w := W) (p := some ⟨B, 0, none⟩) (by rw [mk_len]; exact bytes_congr (fun j hj => (natF_mk hj).symm) h) (mk_bytes hf))
  have HK := Lib.hid (fun (W : World) (hb : Below w.heap.size w W) => hk.below hb)
  have ML := Lib.hid (mk_len 128 f)
  clear hk hn hf
  generalize hzz : IntKind.u8.wrap z = zz at *
  have HZZ := Lib.hid hzz
  have HTX := Lib.hid (show [1, zz] ++ mk 128 f = leafText zz (mk 128 f) by unfold leafText; rfl)
  clear hzz
  generalize hS : w.heap.size = S at *
  have HS := Lib.hid hS
  clear hS
  go_enter Tryd.func13, Tryd.ntmps13
  go_wp2_with (first
    | (refine wpList_cell_box rfl _ rfl f rfl S HS.out ?_; intro w1 hL hb hs
       have L1 := Lib.hid hL; have B1 := Lib.hid hb; have S1 := Lib.hid hs; clear hL hb hs)
    | (refine wpList_sum_alloc rfl rfl (S + 1) S1.out ?_; intro w2 hD hb hs
       rw [← S1.out] at hb
       have L2 := Lib.hid (L1.out.below hb); have D2 := Lib.hid hD; have B2 := Lib.hid (B1.out.trans (hb.mono (by rw [S1.out]; omega))); have S2 := Lib.hid hs; clear hD hb hs L1 B1)
    | (refine wpList_bytes2 rfl _ _ rfl 1 zz rfl (by show Value.int .u8 (IntKind.u8.wrap z) = _; rw [HZZ.out]) ?_; intro w3 ho hb hs
       have L3 := Lib.hid (L2.out.below hb); have D3 := Lib.hid (D2.out.below hb); have O3 := Lib.hid ho; have B3 := Lib.hid (B2.out.trans (hb.mono (HS.out ▸ B2.out.size))); have Z3 := Lib.hid hb.size; have D2b := Lib.hid hb; clear ho hb hs L2 B2)
    | (refine wpList_arr_slice rfl 24 5 128 secUnder rfl _ rfl S 0 rfl ?_)
    | (refine wpList_app elemByte rfl _ _ rfl w2.heap.size w3.heap.size _ [1, zz] (mk 128 f) (some ⟨S, 0, none⟩) 128 128 rfl rfl ML.out.symm O3.out (RL.out _ _ L3.out) (by rw [ML.out]; exact (by decide : 2 + 128 ≤ 4000000)) (by decide) Z3.out ?_
       intro v4 w4 ho hb
       rw [HTX.out] at ho
       obtain ⟨p4, c4, rfl, _, _, hr4, _⟩ := ho.rows elemByte.len
       rw [TL.out]
       have R4 := Lib.hid hr4; have D4 := Lib.hid (D2.out.belowM (M := w2.heap.size) (w' := w4) (D2b.out.trans hb) D2.out.lt); have B4 := Lib.hid (B3.out.trans (hb.mono (by rw [S2.out]; omega))); clear ho hb hr4 L3 D3 O3 B3 Z3)
    | (go_at_call 27
       have TT := TG.out p4 c4 w4 (HK.out _ B4.out) R4.out
       rw [TL.out] at TT
       refine TT.mono ?_; rintro e w5 ⟨rfl, hb⟩; clear TT
       have D5 := Lib.hid (D4.out.below hb); have B5 := Lib.hid (B4.out.trans (hb.mono (HS.out ▸ B4.out.size))); clear hb D4 R4 B4 TG)
    | (refine wpList_sum_store rfl _ _ rfl rfl (S + 1) 0 rfl (tauK n g (leafText zz (mk 128 f))) rfl [nought] D5.out (by decide) ?_; intro w6 hD hb hs
       have D6 := Lib.hid hD; have B6 := Lib.hid (B5.out.trans (hb.below (by omega) (HS.out ▸ B5.out.size))); clear hD hb hs))
  exact bodyPost_ret (results_sum2 rfl _ _ (S + 1) (tauK n g (leafText zz (mk 128 f))) rfl D6.out.one) rfl ⟨rfl, B6.out⟩
end Go.Proofs.YtbdldnhpgpjnoaaDoor

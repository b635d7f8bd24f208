/- The contract of package mac's Piece: a key's piece. Conditions: the package's variable holds the constants; the key has no more than 100000 bytes. -/
import Derived.Test.YtfjbehobpkmjbaaDoorMaskC
namespace Go.Proofs.YtfjbehobpkmjbaaDoor
open Go.ChangeShapes Go.WideShapes Go.ChangeAt Go.RowKit

attribute [local irreducible] digF pieK mskB inG

theorem quiet_wholeSum {o : Oper} {a : Act} {C : World → Prop} {K : Act → Prop} (x : Operand) (ho : o.op = .slice 30 x none none none) (B : Nat) (hx : a.eval x = .pointer (some ⟨B, 0, none⟩)) (hk : K (a.put o.dst (.slice (some ⟨B, 0, none⟩) 32 32))) : o.quiet Tryd.prog a C K := by
  refine quiet_value _ (fun w _ => ?_) hk
  have hs := byteElem.run_size (P := Tryd.prog) w
  unfold execOp
  simp only [ho, hx]
  simp [go_sem, hs]
set_option maxRecDepth 100000 in
set_option maxHeartbeats 2000000 in
theorem Piece_any (p : Option Addr) (n cap : Nat) (g : Nat → Nat) (hn : n ≤ 100000) (hcap : n ≤ cap) (hg : ∀ i, i < n → g i < 256) (w : World) (hT : TabAt w) (hp : BytesAt w p n g) :
    Calls Tryd.prog 12 #[.slice p n cap] w fun e w' => e = .returned (.agg (cellsOf .u8 (mk 64 (pieK n g)))) ∧ Below w.heap.size w w' := by
  have h0 : IntBlk ((w.alloc (.cells (cellsOf .u8 (mk 64 zeroK)) 25)).alloc (.cells (cellsOf .u8 (mk 64 zeroK)) 25)) w.heap.size .u8 25 (mk 64 zeroK) := (IntBlk.new w .u8 _ (mk 64 zeroK)).alloc _
  have h1 := blk_two w .u8 25 (mk 64 zeroK) (.cells (cellsOf .u8 (mk 64 zeroK)) 25)
  have hb : Below w.heap.size w ((w.alloc (.cells (cellsOf .u8 (mk 64 zeroK)) 25)).alloc (.cells (cellsOf .u8 (mk 64 zeroK)) 25)) := ((Below.refl _ w).alloc (Nat.le_refl _) _).alloc (by simp) _
  have hs : ((w.alloc (.cells (cellsOf .u8 (mk 64 zeroK)) 25)).alloc (.cells (cellsOf .u8 (mk 64 zeroK)) 25)).heap.size = w.heap.size + 1 + 1 := by simp
  have hp2 := hp.below hb
  by_cases h : 64 < n
  · have e1 : (64 : Int) < n := by omega
    rw [pieK_long h]
    go_enter Tryd.func12, Tryd.ntmps12
    have H0 := Lib.hid h0; have H1 := Lib.hid h1; have HB := Lib.hid hb; have HP := Lib.hid hp2; have HS := Lib.hid hs
    have HT := Lib.hid (hT.on hb)
    clear h0 h1 hb hp hp2 hT hs
    go_wp2_with (first
      | (go_at_call 27
         change Calls _ _ _ (((w.alloc (.cells (cellsOf .u8 (mk 64 zeroK)) 25)).alloc (.cells (cellsOf .u8 (mk 64 zeroK)) 25)).alloc (.cells #[.slice p n cap] 22)) _
         generalize (w.alloc (.cells (cellsOf .u8 (mk 64 zeroK)) 25)).alloc (.cells (cellsOf .u8 (mk 64 zeroK)) 25) = V at *
         rw [← HS.out]
         have A1 : Below V.heap.size V (V.alloc (.cells #[.slice p n cap] 22)) := (Below.refl _ V).alloc (Nat.le_refl _) _
         refine (Of_one V.heap.size 1 p n cap g hn hcap hg _ (HT.out.on A1) (cell_of_one (heap_alloc_new V (.cells #[.slice p n cap] 22))) (HP.out.below A1)).mono ?_; rintro e w1 ⟨rfl, hb1⟩
         have A2 := A1.trans (hb1.mono A1.size)
         have I0 := Lib.hid (H0.out.below A2 H0.out.lt)
         have I1 := Lib.hid (H1.out.below A2 H1.out.lt)
         have IB := Lib.hid (HB.out.trans (A2.mono (by have := HS.out; omega)))
         clear hb1 A1 A2 H0 H1 HB HP HT)
      | (refine store_row_on rfl 30 _ _ rfl rfl w1.heap.size (cellsOf .u8 (mk 32 (digF n g))) rfl rfl 30 (cellsOf .u8 (mk 32 zeroK)) (IntBlk.new w1 .u8 _ (mk 32 zeroK)) (sumSize _) (by rw [cellsOf_size, cellsOf_size, mk_len, mk_len]) (cellsOf_one _ _) ?_))
    have E0 : Below w1.heap.size w1 ((w1.alloc (.cells (cellsOf .u8 (mk 32 zeroK)) 30)).setRow w1.heap.size (cellsOf .u8 (mk 32 (digF n g)))) := below_setRow ((Below.refl _ w1).alloc (Nat.le_refl _) _) (Nat.le_refl _) _
    have E1 : IntBlk ((w1.alloc (.cells (cellsOf .u8 (mk 32 zeroK)) 30)).setRow w1.heap.size (cellsOf .u8 (mk 32 (digF n g)))) w1.heap.size .u8 30 (mk 32 (digF n g)) := (IntBlk.new w1 .u8 _ (mk 32 zeroK)).setRow .u8 _
    have G0 := I0.out.below E0 I0.out.lt
    have G1 := I1.out.below E0 I1.out.lt
    have GB := IB.out.trans (E0.mono IB.out.size)
    change Code.wp _ _ _ _ ((w1.alloc (.cells (cellsOf .u8 (mk 32 zeroK)) 30)).setRow w1.heap.size (cellsOf .u8 (mk 32 (digF n g))))
    generalize ((w1.alloc (.cells (cellsOf .u8 (mk 32 zeroK)) 30)).setRow w1.heap.size (cellsOf .u8 (mk 32 (digF n g)))) = U at *
    go_wp2
    refine wp_region_class_tail 2 (fun w' => Below U.heap.size U w') (by kernel_rfl) (by kernel_rfl) ((Below.refl _ _).drew) ?_
    simp only [List.take_succ_cons, List.take_zero, List.drop_succ_cons, List.drop_zero]
    iterate 2 (first
      | go_big_quiet_skip
      | (go_big_quiet_want
         first
           | (go_big_quiet_op; go_big_quiet_on)
           | ((first
               | (refine quiet_whole _ rfl (w.heap.size + 1) rfl ?_)
               | (refine quiet_wholeSum _ rfl w1.heap.size rfl ?_)); go_simp; go_big_quiet_on)))
    refine wpQuiet_nil ?_
    intro wx hwx
    refine wpList_copy_in rfl _ _ rfl (w.heap.size + 1) 25 64 zeroK (digF n g) (some ⟨w1.heap.size, 0, none⟩) 32 32 rfl rfl (G1.below hwx G1.lt) (E1.below hwx E1.lt).bytes ?_
    intro wy hy1 hy2
    have K0 := Lib.hid ((G0.below hwx G0.lt).below hy2 (by omega))
    have K1 := Lib.hid hy1
    have KB := Lib.hid ((GB.trans (hwx.mono GB.size)).trans (hy2.mono (by omega)))
    clear hy1 hy2 hwx G0 G1 GB E0 E1 I0 I1 IB
    go_wp2_with (first
      | (refine wpList_load_row rfl 25 _ rfl (w.heap.size + 1) rfl 25 (cellsOf .u8 (mk 64 (inG 32 64 (digF n g) zeroK))) (0, 0) _ K1.out pieceUnder rfl (pieceSize _) ?_)
      | (refine wpList_store_row rfl 25 _ _ rfl w.heap.size _ rfl rfl 25 (cellsOf .u8 (mk 64 zeroK)) K0.out (pieceSize _) (by rw [cellsOf_size, cellsOf_size, mk_len, mk_len]) (cellsOf_one _ _) ?_))
    refine bodyPost_ret (results_cell_row rfl _ _ w.heap.size 25 (cellsOf .u8 (mk 64 (inG 32 64 (digF n g) zeroK))) (0, 0) _ rfl (K0.out.setRow .u8 _) pieceUnder rfl (pieceSize _)) rfl ⟨rfl, below_setRow KB.out (Nat.le_refl _) _⟩
  · have e1 : ¬ (64 : Int) < n := by omega
    rw [pieK_short (by omega)]
    go_enter Tryd.func12, Tryd.ntmps12
    have H0 := Lib.hid h0; have H1 := Lib.hid h1; have HB := Lib.hid hb; have HP := Lib.hid hp2
    clear h0 h1 hb hp hp2 hT hs
    go_wp2_with (first
      | (refine wpList_copy_in rfl _ _ rfl (w.heap.size + 1) 25 64 zeroK g p n cap rfl rfl H1.out HP.out ?_
         intro wy hy1 hy2
         have K0 := Lib.hid (H0.out.below hy2 (by omega))
         have K1 := Lib.hid hy1
         have KB := Lib.hid (HB.out.trans (hy2.mono (by omega)))
         clear hy1 hy2 H0 H1 HB HP)
      | (refine wpList_load_row rfl 25 _ rfl (w.heap.size + 1) rfl 25 (cellsOf .u8 (mk 64 (inG n 64 g zeroK))) (0, 0) _ K1.out pieceUnder rfl (pieceSize _) ?_)
      | (refine wpList_store_row rfl 25 _ _ rfl w.heap.size _ rfl rfl 25 (cellsOf .u8 (mk 64 zeroK)) K0.out (pieceSize _) (by rw [cellsOf_size, cellsOf_size, mk_len, mk_len]) (cellsOf_one _ _) ?_))
    refine bodyPost_ret (results_cell_row rfl _ _ w.heap.size 25 (cellsOf .u8 (mk 64 (inG n 64 g zeroK))) (0, 0) _ rfl (K0.out.setRow .u8 _) pieceUnder rfl (pieceSize _)) rfl ⟨rfl, below_setRow KB.out (Nat.le_refl _) _⟩
end Go.Proofs.YtfjbehobpkmjbaaDoor

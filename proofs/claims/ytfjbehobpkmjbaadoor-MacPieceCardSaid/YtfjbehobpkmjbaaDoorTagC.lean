/- The contract of package mac's Tag: a text's tag with a key. Conditions: the package's variable holds the constants; the key has no more than 100000 bytes, the parts are no more than 900, and together no longer than 900000 bytes. -/
import Derived.Test.YtfjbehobpkmjbaaDoorMacQ
namespace Go.Proofs.YtfjbehobpkmjbaaDoor
open Go.ChangeShapes Go.WideShapes Go.ChangeAt Go.RowKit

attribute [local irreducible] digF pieK mskB inG cat2 innF lenTo consP partL

set_option maxRecDepth 100000 in
set_option maxHeartbeats 4000000 in
theorem Tag_any (p : Option Addr) (n cap : Nat) (g : Nat → Nat) (np cp : Nat) (q : Option Addr) (P : Nat → Option Addr × Nat × Nat) (gt : Nat → Nat) (hn : n ≤ 100000) (hcap : n ≤ cap) (hg : ∀ i, i < n → g i < 256)
    (hnp : np ≤ 900) (hN : lenTo P np ≤ 900000) (hPc : ∀ i, i < np → (P i).2.1 ≤ (P i).2.2) (hgt : ∀ i, i < lenTo P np → gt i < 256) (w : World) (hT : TabAt w) (hp : BytesAt w p n g) (hP : PartsIn w.heap.size w q np P gt) :
    Calls Tryd.prog 16 #[.slice p n cap, .slice q np cp] w fun e w' => e = .returned (.agg (cellsOf .u8 (mk 32 (tagF n g (lenTo P np) gt)))) ∧ Below w.heap.size w w' := by
  have hlt := pieK_lt hg
  have HPI := Lib.hid (fun W hT hp => Piece_any p n cap g hn hcap hg W hT hp)
  show Calls _ _ _ _ fun e w' => e = .returned (.agg (cellsOf .u8 (mk 32 (digF 96 (cat2 64 (mskB 92 (pieK n g)) (innF (pieK n g) (lenTo P np) gt)))))) ∧ Below w.heap.size w w'
  have hin : innF (pieK n g) (lenTo P np) gt = digF (64 + lenTo P np) (cat2 64 (mskB 54 (pieK n g)) gt) := by unfold innF; rfl
  generalize pieK n g = K at *
  have HIN := Lib.hid hin
  clear hin
  have h0 := IntBlk.new w .u8 30 (mk 32 zeroK)
  have a0 : Below w.heap.size w (w.alloc (.cells (cellsOf .u8 (mk 32 zeroK)) 30)) := (Below.refl _ w).alloc (Nat.le_refl _) _
  have H0 := Lib.hid h0; have A0 := Lib.hid a0; have HP := Lib.hid (hp.below a0); have HT := Lib.hid (hT.on a0); have HPP := Lib.hid (hP.below a0)
  clear h0 a0 hp hT hP
  go_enter Tryd.func16, Tryd.ntmps16
  go_wp2_with (first
    | (go_at_call 12
       change Calls _ _ _ (w.alloc (.cells (cellsOf .u8 (mk 32 zeroK)) 30)) _
       refine (HPI.out _ HT.out HP.out).mono ?_; rintro e w1 ⟨rfl, hb1⟩
       have hs1 : w.heap.size + 1 ≤ w1.heap.size := by have := hb1.size; rw [World.size_alloc] at this; exact this
       have B0 := Lib.hid (H0.out.below hb1 H0.out.lt)
       have BL := Lib.hid (A0.out.trans (hb1.mono (by rw [World.size_alloc]; omega)))
       have BP := Lib.hid (HPP.out.below (hb1.mono (by rw [World.size_alloc]; omega)))
       have BT := Lib.hid (HT.out.on hb1)
       clear hb1 HP HPP HT H0 A0 HPI)
    | (refine store_row_on rfl 25 _ _ rfl rfl w1.heap.size (cellsOf .u8 (mk 64 K)) rfl rfl 25 (cellsOf .u8 (mk 64 zeroK)) (IntBlk.new w1 .u8 _ (mk 64 zeroK)) (pieceSize _) (by rw [cellsOf_size, cellsOf_size, mk_len, mk_len]) (cellsOf_one _ _) ?_
       have E0 : Below w1.heap.size w1 ((w1.alloc (.cells (cellsOf .u8 (mk 64 zeroK)) 25)).setRow w1.heap.size (cellsOf .u8 (mk 64 K))) := below_setRow ((Below.refl _ w1).alloc (Nat.le_refl _) _) (Nat.le_refl _) _
       have E1 : IntBlk ((w1.alloc (.cells (cellsOf .u8 (mk 64 zeroK)) 25)).setRow w1.heap.size (cellsOf .u8 (mk 64 K))) w1.heap.size .u8 25 (mk 64 K) := (IntBlk.new w1 .u8 _ (mk 64 zeroK)).setRow .u8 _
       change wpList _ _ _ _ _ ((w1.alloc (.cells (cellsOf .u8 (mk 64 zeroK)) 25)).setRow w1.heap.size (cellsOf .u8 (mk 64 K)))
       generalize (w1.alloc (.cells (cellsOf .u8 (mk 64 zeroK)) 25)).setRow w1.heap.size (cellsOf .u8 (mk 64 K)) = V at *
       have C0 := Lib.hid (B0.out.below E0 B0.out.lt)
       have CK := Lib.hid E1
       have CL := Lib.hid (BL.out.trans (E0.mono BL.out.size))
       have CP := Lib.hid (BP.out.below (E0.mono BL.out.size))
       have CT := Lib.hid (BT.out.on E0)
       clear E0 E1 B0 BL BP BT)
    | (refine wpList_load_row rfl 25 _ rfl w1.heap.size rfl 25 (cellsOf .u8 (mk 64 K)) (0, 0) _ CK.out pieceUnder rfl (pieceSize _) ?_)
    | (go_at_call 28; refine (masked_any K 54 hlt (by omega) V).mono ?_; rintro e w2 ⟨rfl, hm, hb2⟩
       have D0 := Lib.hid (C0.out.below hb2 C0.out.lt)
       have DK := Lib.hid (CK.out.below hb2 CK.out.lt)
       have DM := Lib.hid hm
       have DL := Lib.hid (CL.out.trans (hb2.mono CL.out.size))
       have DP := Lib.hid (CP.out.below (hb2.mono CL.out.size))
       have DT := Lib.hid (CT.out.on hb2)
       have hs2 := hb2.size
       have hs3 := CL.out.size
       clear hm hb2 C0 CK CL CP CT)
    | (refine wpList_append_lists rfl _ _ rfl w2.heap.size 1 (.slice (some ⟨w2.heap.size, 0, none⟩) 1 1) [.slice (some ⟨V.heap.size, 0, none⟩) 64 64] rfl (owns_row_one w2 w2.heap.size _ (Nat.le_refl _)) q np cp P rfl (DP.out.below ((Below.refl _ w2).alloc (by omega) _)).at (by omega) (by simp) ?_
       intro v3 w3 o3 b3
       obtain ⟨B, c3, rfl, hB1, hB2, hc3, hcl⟩ := owns_row_cells o3 (by omega)
       have L3 : Below w2.heap.size w2 w3 := (((Below.refl _ w2).alloc (Nat.le_refl _) _).trans b3)
       have F0 := Lib.hid (D0.out.below L3 D0.out.lt)
       have FK := Lib.hid (DK.out.below L3 DK.out.lt)
       have FM := Lib.hid (DM.out.below L3 DM.out.lt)
       have FL := Lib.hid (DL.out.trans (L3.mono DL.out.size))
       have FP := Lib.hid ((DP.out.below (L3.mono DL.out.size)).raise (M' := w3.heap.size) (by have := L3.size; have := DL.out.size; omega))
       have FT := Lib.hid (DT.out.on L3)
       have FR := Lib.hid (partL_cons (k := 0) rfl hcl)
       have hs4 := L3.size
       clear o3 b3 hcl L3 D0 DK DM DL DP DT)
    | (go_at_call 27; refine (Of_cons (cB := c3) rfl FT.out FP.out hB2 FR.out FM.out.bytes hnp hN (by omega) (Nat.le_refl _) hPc (mskB_lt (by omega) hlt) hgt).mono ?_
       rw [← HIN.out]; rintro e w4 ⟨rfl, hb4⟩
       have G0 := Lib.hid (F0.out.below hb4 F0.out.lt)
       have GK := Lib.hid (FK.out.below hb4 FK.out.lt)
       have GL := Lib.hid (FL.out.trans (hb4.mono FL.out.size))
       have GT := Lib.hid (FT.out.on hb4)
       clear hb4 F0 FK FM FL FP FT FR)
    | (refine store_row_on rfl 30 _ _ rfl rfl w4.heap.size (cellsOf .u8 (mk 32 (innF K (lenTo P np) gt))) rfl rfl 30 (cellsOf .u8 (mk 32 zeroK)) (IntBlk.new w4 .u8 _ (mk 32 zeroK)) (sumSize _) (by rw [cellsOf_size, cellsOf_size, mk_len, mk_len]) (cellsOf_one _ _) ?_
       have E0 : Below w4.heap.size w4 ((w4.alloc (.cells (cellsOf .u8 (mk 32 zeroK)) 30)).setRow w4.heap.size (cellsOf .u8 (mk 32 (innF K (lenTo P np) gt)))) := below_setRow ((Below.refl _ w4).alloc (Nat.le_refl _) _) (Nat.le_refl _) _
       have E1 : IntBlk ((w4.alloc (.cells (cellsOf .u8 (mk 32 zeroK)) 30)).setRow w4.heap.size (cellsOf .u8 (mk 32 (innF K (lenTo P np) gt)))) w4.heap.size .u8 30 (mk 32 (innF K (lenTo P np) gt)) := (IntBlk.new w4 .u8 _ (mk 32 zeroK)).setRow .u8 _
       change wpList _ _ _ _ _ ((w4.alloc (.cells (cellsOf .u8 (mk 32 zeroK)) 30)).setRow w4.heap.size (cellsOf .u8 (mk 32 (innF K (lenTo P np) gt))))
       generalize (w4.alloc (.cells (cellsOf .u8 (mk 32 zeroK)) 30)).setRow w4.heap.size (cellsOf .u8 (mk 32 (innF K (lenTo P np) gt))) = U at *
       have I0 := Lib.hid (G0.out.below E0 G0.out.lt)
       have IK := Lib.hid (GK.out.below E0 GK.out.lt)
       have II := Lib.hid E1
       have IL := Lib.hid (GL.out.trans (E0.mono GL.out.size))
       have IT := Lib.hid (GT.out.on E0)
       clear E0 E1 G0 GK GL GT))
  have hlI : ∀ i, i < 32 → innF K (lenTo P np) gt i < 256 := fun i _ => innF_lt _ _ _ i
  obtain ⟨D, hD⟩ : ∃ D, innF K (lenTo P np) gt = D := ⟨_, rfl⟩
  rw [hD] at hlI II
  have HD := Lib.hid hD
  clear hD HIN
  have c0 : IntBlk U.drew w1.heap.size .u8 25 (mk 64 K) := IK.out.drew
  have d0 : Below U.heap.size U U.drew := (Below.refl _ U).drew
  refine wp_region_sched [(0, true), (2, true), (1, false), (3, false), (4, false), (5, false)] (fun W => IntBlk W w1.heap.size .u8 25 (mk 64 K)) (by kernel_rfl) (by kernel_rfl) c0 ?_
  refine walk_float rfl rfl (fun K' hK => ?_)
  refine gives_row 25 _ rfl w1.heap.size .u8 (mk 64 K) rfl 64 5 pieceUnder (pieceSize _) (fun _ h => h) ?_
  go_simp
  refine hK _ ?_
  clear hK K'
  refine walk_float rfl rfl (fun K' hK => ?_)
  refine gives_wholeSum _ rfl w4.heap.size rfl ?_
  go_simp
  refine hK _ ?_
  clear hK K'
  refine walk_done rfl rfl (fun K' hK => ?_)
  refine done_two _ _ _ _ rfl 28 rfl (.agg (cellsOf .u8 (mk 64 K))) (.int .u8 92) rfl rfl (fun _ w => by simp [go_sem]) ((masked_any K 92 hlt (by omega) U.drew).mono fun e v1 hv1 => ⟨.slice (some ⟨U.heap.size, 0, none⟩) 64 64, hv1.1, ?_⟩)
  obtain ⟨_, hm1, hb1⟩ := hv1
  have n0 := I0.out.drew.below hb1 I0.out.lt
  have nI := II.out.drew.below hb1 II.out.lt
  have nK := c0.below hb1 c0.lt
  have nL := IL.out.trans ((d0.trans hb1).mono IL.out.size)
  have nT := IT.out.on (d0.trans hb1)
  refine ⟨nK, ?_⟩
  go_simp
  refine hK _ _ ?_
  clear hK K' hb1 c0 I0 IK II IL IT d0
  refine walk_done rfl rfl (fun K' hK => ?_)
  refine done_slice2 _ _ rfl (some ⟨U.heap.size, 0, none⟩) (some ⟨w4.heap.size, 0, none⟩) 64 32 64 32 rfl rfl ?_
  have a2 : Below v1.heap.size v1 (v1.alloc (.cells #[.slice (some ⟨U.heap.size, 0, none⟩) 64 64, .slice (some ⟨w4.heap.size, 0, none⟩) 32 32] 22)) := (Below.refl _ v1).alloc (Nat.le_refl _) _
  have cs := two_cells v1 (.slice (some ⟨U.heap.size, 0, none⟩) 64 64) (.slice (some ⟨w4.heap.size, 0, none⟩) 32 32) 22
  refine ⟨nK.below a2 nK.lt, ?_⟩
  generalize v1.alloc (.cells #[.slice (some ⟨U.heap.size, 0, none⟩) 64 64, .slice (some ⟨w4.heap.size, 0, none⟩) 32 32] 22) = v2 at *
  go_simp
  refine hK _ _ ?_
  clear hK K'
  refine walk_done rfl rfl (fun K' hK => ?_)
  refine done_call1 _ _ _ rfl 27 rfl (.slice (some ⟨v1.heap.size, 0, none⟩) 2 2) rfl (fun _ w => by simp [go_sem]) _ (Of_two (nT.on a2) (block_lt_of_cell cs.1) cs.1 cs.2 (hm1.below a2 hm1.lt).bytes (nI.below a2 nI.lt).bytes (by omega) (by omega) (by omega) (mskB_lt (by omega) hlt) hlI) ?_
  intro v3 hv3
  have b3 := a2.trans (hv3.mono a2.size)
  have m0 := n0.below b3 n0.lt
  have mL := nL.trans (b3.mono nL.size)
  refine ⟨nK.below b3 nK.lt, ?_⟩
  go_simp
  refine hK _ _ ?_
  have mK := nK.below b3 nK.lt
  clear hK K'
  refine walk_done rfl rfl (fun K' hK => ?_)
  refine done_store 30 _ _ rfl w.heap.size (cellsOf .u8 (mk 32 (digF (64 + 32) (cat2 64 (mskB 92 K) D)))) rfl rfl 30 (cellsOf .u8 (mk 32 zeroK)) m0 (sumSize _) (by rw [cellsOf_size, cellsOf_size, mk_len, mk_len]) (cellsOf_one _ _) ?_
  refine ⟨mK.otherRow (by have := mK.lt; omega) _, ?_⟩
  refine hK _ _ ?_
  refine walk_nil ?_
  go_wp2
  refine bodyPost_ret (results_cell_row rfl _ _ w.heap.size 30 (cellsOf .u8 (mk 32 (digF (64 + 32) (cat2 64 (mskB 92 K) D)))) (0, 0) _ rfl (m0.setRow .u8 _) sumUnder rfl (sumSize _)) rfl ⟨by rw [HD.out], below_setRow mL (Nat.le_refl _) _⟩
end Go.Proofs.YtfjbehobpkmjbaaDoor

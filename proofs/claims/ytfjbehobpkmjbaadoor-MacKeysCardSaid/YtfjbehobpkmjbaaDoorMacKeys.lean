/- A key of more than 64 bytes has the tags of its digest, and one of less those of its piece: the statement MacKeys, tied to the program's text. No condition. -/
import Derived.Test.YtfjbehobpkmjbaaDoorMacS
namespace Go.Proofs.YtfjbehobpkmjbaaDoor.macKeys
open Go.ChangeShapes Go.WideShapes Go.ChangeAt Go.RowKit
set_option linter.unusedVariables false
theorem pieK_dig32 {n : Nat} {g : Nat → Nat} (h : 64 < n) (nt : Nat) (gt : Nat → Nat) : tagF 32 (digF n g) nt gt = tagF n g nt gt := by
  have e : pieK 32 (digF n g) = pieK n g := by rw [pieK_short (by omega), pieK_long h]
  unfold tagF; rw [e]
attribute [local irreducible] digF pieK markF tagF sev

theorem own : ownKnob Tryd.prog.godebug = none := by kernel_rfl

set_option maxRecDepth 100000 in
set_option maxHeartbeats 8000000 in
theorem walk (p : Option Addr) (n cap : Nat) (g : Nat → Nat) (pt : Option Addr) (nt ct : Nat) (gt : Nat → Nat) (hg : ∀ i, i < n → g i < 256) (hcap : n ≤ cap) (hmax : n ≤ 140737488351232) (hgt : ∀ i, i < nt → gt i < 256) (hct : nt ≤ ct) (hmaxt : nt ≤ 140737488351232) (w : World) (hT : TabAt w) (hp : BytesAt w p n g) (ht : BytesAt w pt nt gt) :
    Calls Tryd.prog 9 #[.slice p n cap, .slice pt nt ct] w fun e w' => e = .returned (.bool true) ∧ Below w.heap.size w w' := by
  have a0 : Below w.heap.size w (w.alloc (.cells #[.slice p n cap, .slice pt nt ct] 22)) := (Below.refl _ w).alloc (Nat.le_refl _) _
  have cs := two_cells w (.slice p n cap) (.slice pt nt ct) 22
  have LG := Lib.hid (large_two (c := 2) hmax hmaxt cs.1 cs.2)
  clear cs
  by_cases hn : n + nt ≤ 4096
  · have hd : decide (4096 < n + nt) = false := decide_eq_false (by omega)
    rw [hd] at LG
    have HP := Lib.hid (hp.below a0)
    have HQ := Lib.hid (ht.below a0)
    have HT := Lib.hid (hT.on a0)
    have HA := Lib.hid a0
    have HG := Lib.hid hg
    have HGT := Lib.hid hgt
    have HFI := Lib.hid (show ∀ j, j < n → g j = g (0 + j) from fun j _ => by rw [Nat.zero_add])
    have PC := Lib.hid (fun p c W hc hT hd => Piece_any p n c g (by omega) hc hg W hT hd)
    have RO := Lib.hid (fun W h => refOf_any p n cap g (by omega) hg W h)
    clear hp ht hT a0 hd hg hgt
    by_cases h64 : n ≤ 64
    · have t0 : decide ((n : Int) ≤ 64) = true := by simp; omega
      have hpk := pieK_in (g := g) h64
      have HSP := Lib.hid (show mk n (pieK n g) = mk n g from mk_ext fun j hj => by rw [hpk j hj, Nat.zero_add])
      clear hpk
      go_enter Tryd.func9, Tryd.ntmps9
      go_wp2_with (first
        | (go_at_call 10; refine LG.out.mono ?_; rintro e w0 ⟨rfl, hw0⟩
           rw [hw0] at HP HQ HT HA
           clear hw0 LG)
        | (refine wpList_append_own_bytes rfl (.tmp 11) (.tmp 12) rfl w0.heap.size (w0.heap.size + 1) 0 _ g g p n cap rfl rfl (OwnS.empty w0 g w0.heap.size (Nat.le_refl _)) (HP.out.below ((Below.refl _ w0).alloc (Nat.le_refl _) _)) HFI.out (by omega) (by simp) ?_; intro v1 w1 hv1 hb1
           rw [Nat.zero_add] at hv1
           obtain ⟨p1, c1, rfl, hc1, _, hB1, _⟩ := hv1.bytes (Nat.le_refl _)
           have b1 := ((Below.refl _ w0).alloc (Nat.le_refl _) (.cells (cellsOf .u8 []) 5)).trans hb1
           have A1 := Lib.hid hB1
           have A3 := Lib.hid (HA.out.trans (b1.mono HA.out.size))
           have A4 := Lib.hid (HP.out.below b1)
           have A5 := Lib.hid (HQ.out.below b1)
           have AT := Lib.hid (HT.out.on b1)
           clear hv1 hb1 hB1 b1 HP HQ HT HA)
        | (go_at_call 12; refine (PC.out p1 c1 w1 hc1 AT.out A1.out).mono ?_; rintro e w2 ⟨rfl, hb2⟩
           have B3 := Lib.hid (A3.out.trans (hb2.mono A3.out.size))
           have B4 := Lib.hid (A4.out.below hb2)
           have B5 := Lib.hid (A5.out.below hb2)
           have BT := Lib.hid (AT.out.on hb2)
           clear hb2 A1 A3 A4 A5 AT PC)
        | (refine store_row_on rfl 25 _ _ rfl rfl w2.heap.size (cellsOf .u8 (mk 64 (pieK n g))) rfl rfl 25 (cellsOf .u8 (mk 64 zeroK)) (IntBlk.new w2 .u8 _ (mk 64 zeroK)) (pieceSize _) (by rw [cellsOf_size, cellsOf_size, mk_len, mk_len]) (cellsOf_one _ _) ?_
           have E0 : Below w2.heap.size w2 ((w2.alloc (.cells (cellsOf .u8 (mk 64 zeroK)) 25)).setRow w2.heap.size (cellsOf .u8 (mk 64 (pieK n g)))) := below_setRow ((Below.refl _ w2).alloc (Nat.le_refl _) _) (Nat.le_refl _) _
           have E1 : IntBlk ((w2.alloc (.cells (cellsOf .u8 (mk 64 zeroK)) 25)).setRow w2.heap.size (cellsOf .u8 (mk 64 (pieK n g)))) w2.heap.size .u8 25 (mk 64 (pieK n g)) := (IntBlk.new w2 .u8 _ (mk 64 zeroK)).setRow .u8 _
           change wpList _ _ _ _ _ ((w2.alloc (.cells (cellsOf .u8 (mk 64 zeroK)) 25)).setRow w2.heap.size (cellsOf .u8 (mk 64 (pieK n g))))
           generalize (w2.alloc (.cells (cellsOf .u8 (mk 64 zeroK)) 25)).setRow w2.heap.size (cellsOf .u8 (mk 64 (pieK n g))) = U at *
           have DP := Lib.hid E1
           have D3 := Lib.hid (B3.out.trans (E0.mono B3.out.size))
           have D4 := Lib.hid (B4.out.below E0)
           have D5 := Lib.hid (B5.out.below E0)
           have DT := Lib.hid (BT.out.on E0)
           clear E0 E1 B3 B4 B5 BT)
        | fail)
      have HL := Lib.hid D3.out
      have c0 : Below U.heap.size U U.drew := (Below.refl _ U).drew
      have KP : ∀ W, Below U.heap.size U W → IntBlk W w2.heap.size .u8 25 (mk 64 (pieK n g)) := fun W h => DP.out.below h DP.out.lt
      have KC : ∀ W, Below U.heap.size U W → BytesAt W (some ⟨w2.heap.size, 0, none⟩) n (pieK n g) := fun W h => .inr ⟨w2.heap.size, 0, rfl, (KP W h).lt, fun j hj => (KP W h).cells0 j (by omega)⟩
      have KG : ∀ W, Below U.heap.size U W → BytesAt W p n g := fun W h => D4.out.below h
      refine wp_region_tree (.float 2 (.one 0 (.one 1 (.float 3 (.float 4 (.float 5 (.float 6 (.float 7 (.float 8 (.float 9 (.float 10 (.float 11 (.float 12 (.float 13 (.float 14 (.float 15 (.float 18 (.float 19 (.two 16 (.two 17 (.one 20 (.one 21 (.float 22 (.float 23 (.float 24 .over))))) 20 (.one 17 (.one 21 (.float 22 (.float 23 (.float 24 .over)))))) 20 (.one 16 (.one 17 (.one 21 (.float 22 (.float 23 (.float 24 .over))))))))))))))))))))))))) (fun W => Below U.heap.size U W) (by kernel_rfl) (by kernel_rfl) c0 ?_
      iterate 1 (
        refine tree_float rfl rfl (fun K hK => ?_)
        first
          | (refine gives_sev rfl ?_)
        go_simp
        refine hK _ ?_
        clear hK K)
      refine tree_one rfl rfl (fun K hK => ?_)
      refine done_buildFlat 1 _ rfl [(7 : Int)] rfl (by omega) (by omega) rfl ?_
      have d1 : Below U.drew.heap.size U.drew (U.drew.alloc (.cells (cellsOf .u8 [(7 : Int)]) 5)) := (Below.refl _ _).alloc (Nat.le_refl _) _
      have l1 := bytesAt_lit U.drew 1 (fun _ => 7) [(7 : Int)] rfl
      have c1 := c0.trans d1
      refine ⟨c1, ?_⟩
      generalize U.drew.alloc (.cells (cellsOf .u8 [(7 : Int)]) 5) = v1 at *
      go_simp
      refine hK _ _ ?_
      clear hK K d1
      refine tree_one rfl rfl (fun K hK => ?_)
      refine done_call1 _ _ _ rfl 12 rfl (.slice (some ⟨U.heap.size, 0, none⟩) 1 1) rfl (fun _ w => by simp [go_sem]) _ (Piece_any (some ⟨U.heap.size, 0, none⟩) 1 1 (fun _ => 7) (by omega) (by omega) (fun _ _ => by omega) v1 (DT.out.on c1) l1) ?_
      intro v2 hv2
      have c2 := c1.trans (hv2.mono c1.size)
      refine ⟨c2, ?_⟩
      go_simp
      refine hK _ _ ?_
      clear hK K hv2 l1
      iterate 15 (
        refine tree_float rfl rfl (fun K hK => ?_)
        first
          | (refine gives_move _ rfl ?_)
          | (refine gives_piece_eql _ _ rfl (pieK 1 fun _ => 7) sev rfl rfl (by rw [pieK_sev]; simp) ?_)
          | (refine gives_len _ rfl p n cap rfl ?_)
          | (refine gives_cut _ _ rfl w2.heap.size n n rfl rfl rfl h64 ?_)
          | (refine gives_string _ rfl (some ⟨w2.heap.size, 0, none⟩) n 64 (pieK n g) rfl KC ?_; rw [HSP.out])
          | (refine gives_string _ rfl p n cap g rfl KG ?_)
          | (refine gives_string_eql _ _ rfl _ _ _ rfl rfl rfl rfl ?_)
          | (refine gives_pick_bool _ _ _ rfl rfl _ rfl ?_)
          | (refine gives_whole _ rfl w2.heap.size rfl ?_)
        go_simp
        refine hK _ ?_
        clear hK K)
      refine ⟨?_, ?_⟩
      · refine tree_one rfl rfl (fun K hK => ?_)
        refine done_slice1 _ rfl pt nt ct rfl ?_
        have a_va : Below v2.heap.size v2 (v2.alloc (.cells #[.slice pt nt ct] 22)) := (Below.refl _ v2).alloc (Nat.le_refl _) _
        have k_va := cell_of_one (heap_alloc_new v2 (.cells #[.slice pt nt ct] 22))
        have ca := c2.trans (a_va.mono c2.size)
        refine ⟨ca, ?_⟩
        obtain ⟨va, h_va⟩ : ∃ va, v2.alloc (.cells #[.slice pt nt ct] 22) = va := ⟨_, rfl⟩
        rw [h_va] at a_va k_va ca ⊢
        clear h_va
        go_simp
        refine hK _ _ ?_
        clear hK K
        refine ⟨?_, ?_⟩
        · refine tree_one rfl rfl (fun K hK => ?_)
          refine done_two _ _ _ _ rfl 16 rfl (.slice p n cap) (.slice (some ⟨v2.heap.size, 0, none⟩) 1 1) rfl rfl (fun _ w => by simp [go_sem]) ((Tag_one (by omega) hcap HG.out (by omega) hct HGT.out (DT.out.on ca) (D4.out.below ca) (k_va) (D5.out.below ca)).mono fun e vb h_vb => ?_)
          obtain ⟨rfl, h_vb⟩ := h_vb
          have cb := ca.trans (h_vb.mono ca.size)
          refine ⟨_, rfl, cb, ?_⟩
          go_simp
          refine hK _ _ ?_
          clear hK K h_vb
          refine tree_one rfl rfl (fun K hK => ?_)
          refine done_slice1 _ rfl pt nt ct rfl ?_
          have a_vc : Below vb.heap.size vb (vb.alloc (.cells #[.slice pt nt ct] 22)) := (Below.refl _ vb).alloc (Nat.le_refl _) _
          have k_vc := cell_of_one (heap_alloc_new vb (.cells #[.slice pt nt ct] 22))
          have cc := cb.trans (a_vc.mono cb.size)
          refine ⟨cc, ?_⟩
          obtain ⟨vc, h_vc⟩ : ∃ vc, vb.alloc (.cells #[.slice pt nt ct] 22) = vc := ⟨_, rfl⟩
          rw [h_vc] at a_vc k_vc cc ⊢
          clear h_vc
          go_simp
          refine hK _ _ ?_
          clear hK K
          refine tree_one rfl rfl (fun K hK => ?_)
          refine done_two _ _ _ _ rfl 16 rfl (.slice (some ⟨w2.heap.size, 0, none⟩) 64 64) (.slice (some ⟨vb.heap.size, 0, none⟩) 1 1) rfl rfl (fun _ w => by simp [go_sem]) ((Tag_one (by omega) (by omega) (pieK_lt HG.out) (by omega) hct HGT.out (DT.out.on cc) (KP _ cc).bytes (k_vc) (D5.out.below cc)).mono fun e vd h_vd => ?_)
          obtain ⟨rfl, h_vd⟩ := h_vd
          have cd := cc.trans (h_vd.mono cc.size)
          refine ⟨_, rfl, cd, ?_⟩
          go_simp
          refine hK _ _ ?_
          clear hK K h_vd
          iterate 3 (
            refine tree_float rfl rfl (fun K hK => ?_)
            first
              | (refine gives_sum_eql _ _ rfl (tagF n g nt gt) (tagF 64 (pieK n g) nt gt) rfl rfl (by rw [tagF_piece]; simp) ?_)
              | (refine gives_pick_bool _ _ _ rfl rfl _ rfl ?_)
              | (refine gives_assign _ rfl ?_)
            go_simp
            refine hK _ ?_
            clear hK K)
          refine tree_over ?_
          go_wp2
          go_ret
          exact ⟨rfl, HL.out.trans (cd.mono HL.out.size)⟩
        · refine tree_one rfl rfl (fun K hK => ?_)
          refine done_slice1 _ rfl pt nt ct rfl ?_
          have a_vb : Below va.heap.size va (va.alloc (.cells #[.slice pt nt ct] 22)) := (Below.refl _ va).alloc (Nat.le_refl _) _
          have k_vb := cell_of_one (heap_alloc_new va (.cells #[.slice pt nt ct] 22))
          have cb := ca.trans (a_vb.mono ca.size)
          refine ⟨cb, ?_⟩
          obtain ⟨vb, h_vb⟩ : ∃ vb, va.alloc (.cells #[.slice pt nt ct] 22) = vb := ⟨_, rfl⟩
          rw [h_vb] at a_vb k_vb cb ⊢
          clear h_vb
          go_simp
          refine hK _ _ ?_
          clear hK K
          have k2 := (a_vb.cell (p := ⟨v2.heap.size, 0, none⟩) (block_lt_of_cell k_va)).trans k_va
          refine tree_one rfl rfl (fun K hK => ?_)
          refine done_two _ _ _ _ rfl 16 rfl (.slice p n cap) (.slice (some ⟨v2.heap.size, 0, none⟩) 1 1) rfl rfl (fun _ w => by simp [go_sem]) ((Tag_one (by omega) hcap HG.out (by omega) hct HGT.out (DT.out.on cb) (D4.out.below cb) (k2) (D5.out.below cb)).mono fun e vc h_vc => ?_)
          obtain ⟨rfl, h_vc⟩ := h_vc
          have cc := cb.trans (h_vc.mono cb.size)
          refine ⟨_, rfl, cc, ?_⟩
          go_simp
          refine hK _ _ ?_
          clear hK K
          have k3 := (h_vc.cell (p := ⟨va.heap.size, 0, none⟩) (block_lt_of_cell k_vb)).trans k_vb
          refine tree_one rfl rfl (fun K hK => ?_)
          refine done_two _ _ _ _ rfl 16 rfl (.slice (some ⟨w2.heap.size, 0, none⟩) 64 64) (.slice (some ⟨va.heap.size, 0, none⟩) 1 1) rfl rfl (fun _ w => by simp [go_sem]) ((Tag_one (by omega) (by omega) (pieK_lt HG.out) (by omega) hct HGT.out (DT.out.on cc) (KP _ cc).bytes (k3) (D5.out.below cc)).mono fun e vd h_vd => ?_)
          obtain ⟨rfl, h_vd⟩ := h_vd
          have cd := cc.trans (h_vd.mono cc.size)
          refine ⟨_, rfl, cd, ?_⟩
          go_simp
          refine hK _ _ ?_
          clear hK K h_vd
          iterate 3 (
            refine tree_float rfl rfl (fun K hK => ?_)
            first
              | (refine gives_sum_eql _ _ rfl (tagF n g nt gt) (tagF 64 (pieK n g) nt gt) rfl rfl (by rw [tagF_piece]; simp) ?_)
              | (refine gives_pick_bool _ _ _ rfl rfl _ rfl ?_)
              | (refine gives_assign _ rfl ?_)
            go_simp
            refine hK _ ?_
            clear hK K)
          refine tree_over ?_
          go_wp2
          go_ret
          exact ⟨rfl, HL.out.trans (cd.mono HL.out.size)⟩
      · refine tree_one rfl rfl (fun K hK => ?_)
        refine done_slice1 _ rfl pt nt ct rfl ?_
        have a_va : Below v2.heap.size v2 (v2.alloc (.cells #[.slice pt nt ct] 22)) := (Below.refl _ v2).alloc (Nat.le_refl _) _
        have k_va := cell_of_one (heap_alloc_new v2 (.cells #[.slice pt nt ct] 22))
        have ca := c2.trans (a_va.mono c2.size)
        refine ⟨ca, ?_⟩
        obtain ⟨va, h_va⟩ : ∃ va, v2.alloc (.cells #[.slice pt nt ct] 22) = va := ⟨_, rfl⟩
        rw [h_va] at a_va k_va ca ⊢
        clear h_va
        go_simp
        refine hK _ _ ?_
        clear hK K
        refine tree_one rfl rfl (fun K hK => ?_)
        refine done_slice1 _ rfl pt nt ct rfl ?_
        have a_vb : Below va.heap.size va (va.alloc (.cells #[.slice pt nt ct] 22)) := (Below.refl _ va).alloc (Nat.le_refl _) _
        have k_vb := cell_of_one (heap_alloc_new va (.cells #[.slice pt nt ct] 22))
        have cb := ca.trans (a_vb.mono ca.size)
        refine ⟨cb, ?_⟩
        obtain ⟨vb, h_vb⟩ : ∃ vb, va.alloc (.cells #[.slice pt nt ct] 22) = vb := ⟨_, rfl⟩
        rw [h_vb] at a_vb k_vb cb ⊢
        clear h_vb
        go_simp
        refine hK _ _ ?_
        clear hK K
        have k2 := (a_vb.cell (p := ⟨v2.heap.size, 0, none⟩) (block_lt_of_cell k_va)).trans k_va
        refine tree_one rfl rfl (fun K hK => ?_)
        refine done_two _ _ _ _ rfl 16 rfl (.slice p n cap) (.slice (some ⟨va.heap.size, 0, none⟩) 1 1) rfl rfl (fun _ w => by simp [go_sem]) ((Tag_one (by omega) hcap HG.out (by omega) hct HGT.out (DT.out.on cb) (D4.out.below cb) (k_vb) (D5.out.below cb)).mono fun e vc h_vc => ?_)
        obtain ⟨rfl, h_vc⟩ := h_vc
        have cc := cb.trans (h_vc.mono cb.size)
        refine ⟨_, rfl, cc, ?_⟩
        go_simp
        refine hK _ _ ?_
        clear hK K
        have k3 := (h_vc.cell (p := ⟨v2.heap.size, 0, none⟩) (block_lt_of_cell k2)).trans k2
        refine tree_one rfl rfl (fun K hK => ?_)
        refine done_two _ _ _ _ rfl 16 rfl (.slice (some ⟨w2.heap.size, 0, none⟩) 64 64) (.slice (some ⟨v2.heap.size, 0, none⟩) 1 1) rfl rfl (fun _ w => by simp [go_sem]) ((Tag_one (by omega) (by omega) (pieK_lt HG.out) (by omega) hct HGT.out (DT.out.on cc) (KP _ cc).bytes (k3) (D5.out.below cc)).mono fun e vd h_vd => ?_)
        obtain ⟨rfl, h_vd⟩ := h_vd
        have cd := cc.trans (h_vd.mono cc.size)
        refine ⟨_, rfl, cd, ?_⟩
        go_simp
        refine hK _ _ ?_
        clear hK K h_vd
        iterate 3 (
          refine tree_float rfl rfl (fun K hK => ?_)
          first
            | (refine gives_sum_eql _ _ rfl (tagF n g nt gt) (tagF 64 (pieK n g) nt gt) rfl rfl (by rw [tagF_piece]; simp) ?_)
            | (refine gives_pick_bool _ _ _ rfl rfl _ rfl ?_)
            | (refine gives_assign _ rfl ?_)
          go_simp
          refine hK _ ?_
          clear hK K)
        refine tree_over ?_
        go_wp2
        go_ret
        exact ⟨rfl, HL.out.trans (cd.mono HL.out.size)⟩
    · have t0 : decide ((n : Int) ≤ 64) = false := by simp; omega
      have h65 : 64 < n := by omega
      have hpk := pieK_dig (g := g) h65
      have HSP := Lib.hid (show mk 32 (pieK n g) = mk 32 (digF n g) from mk_ext fun j hj => by rw [hpk j hj, Nat.zero_add])
      have HTD := Lib.hid (pieK_dig32 (g := g) h65 nt gt)
      clear hpk
      go_enter Tryd.func9, Tryd.ntmps9
      go_wp2_with (first
        | (go_at_call 10; refine LG.out.mono ?_; rintro e w0 ⟨rfl, hw0⟩
           rw [hw0] at HP HQ HT HA
           clear hw0 LG)
        | (refine wpList_append_own_bytes rfl (.tmp 11) (.tmp 12) rfl w0.heap.size (w0.heap.size + 1) 0 _ g g p n cap rfl rfl (OwnS.empty w0 g w0.heap.size (Nat.le_refl _)) (HP.out.below ((Below.refl _ w0).alloc (Nat.le_refl _) _)) HFI.out (by omega) (by simp) ?_; intro v1 w1 hv1 hb1
           rw [Nat.zero_add] at hv1
           obtain ⟨p1, c1, rfl, hc1, _, hB1, _⟩ := hv1.bytes (Nat.le_refl _)
           have b1 := ((Below.refl _ w0).alloc (Nat.le_refl _) (.cells (cellsOf .u8 []) 5)).trans hb1
           have A1 := Lib.hid hB1
           have A3 := Lib.hid (HA.out.trans (b1.mono HA.out.size))
           have A4 := Lib.hid (HP.out.below b1)
           have A5 := Lib.hid (HQ.out.below b1)
           have AT := Lib.hid (HT.out.on b1)
           clear hv1 hb1 hB1 b1 HP HQ HT HA)
        | (go_at_call 12; refine (PC.out p1 c1 w1 hc1 AT.out A1.out).mono ?_; rintro e w2 ⟨rfl, hb2⟩
           have B3 := Lib.hid (A3.out.trans (hb2.mono A3.out.size))
           have B4 := Lib.hid (A4.out.below hb2)
           have B5 := Lib.hid (A5.out.below hb2)
           have BT := Lib.hid (AT.out.on hb2)
           clear hb2 A1 A3 A4 A5 AT PC)
        | (refine store_row_on rfl 25 _ _ rfl rfl w2.heap.size (cellsOf .u8 (mk 64 (pieK n g))) rfl rfl 25 (cellsOf .u8 (mk 64 zeroK)) (IntBlk.new w2 .u8 _ (mk 64 zeroK)) (pieceSize _) (by rw [cellsOf_size, cellsOf_size, mk_len, mk_len]) (cellsOf_one _ _) ?_
           have E0 : Below w2.heap.size w2 ((w2.alloc (.cells (cellsOf .u8 (mk 64 zeroK)) 25)).setRow w2.heap.size (cellsOf .u8 (mk 64 (pieK n g)))) := below_setRow ((Below.refl _ w2).alloc (Nat.le_refl _) _) (Nat.le_refl _) _
           have E1 : IntBlk ((w2.alloc (.cells (cellsOf .u8 (mk 64 zeroK)) 25)).setRow w2.heap.size (cellsOf .u8 (mk 64 (pieK n g)))) w2.heap.size .u8 25 (mk 64 (pieK n g)) := (IntBlk.new w2 .u8 _ (mk 64 zeroK)).setRow .u8 _
           change wpList _ _ _ _ _ ((w2.alloc (.cells (cellsOf .u8 (mk 64 zeroK)) 25)).setRow w2.heap.size (cellsOf .u8 (mk 64 (pieK n g))))
           generalize (w2.alloc (.cells (cellsOf .u8 (mk 64 zeroK)) 25)).setRow w2.heap.size (cellsOf .u8 (mk 64 (pieK n g))) = U at *
           have DP := Lib.hid E1
           have D3 := Lib.hid (B3.out.trans (E0.mono B3.out.size))
           have D4 := Lib.hid (B4.out.below E0)
           have D5 := Lib.hid (B5.out.below E0)
           have DT := Lib.hid (BT.out.on E0)
           clear E0 E1 B3 B4 B5 BT)
        | (go_at_call 26; refine (RO.out U D4.out).mono ?_; rintro e w3 ⟨rfl, hb3⟩
           have FP := Lib.hid (DP.out.below hb3 DP.out.lt)
           have F3 := Lib.hid (D3.out.trans (hb3.mono D3.out.size))
           have F4 := Lib.hid (D4.out.below hb3)
           have F5 := Lib.hid (D5.out.below hb3)
           have FT := Lib.hid (DT.out.on hb3)
           clear hb3 DP D3 D4 D5 DT RO)
        | (refine store_row_on rfl 30 _ _ rfl rfl w3.heap.size (cellsOf .u8 (mk 32 (digF n g))) rfl rfl 30 (cellsOf .u8 (mk 32 zeroK)) (IntBlk.new w3 .u8 _ (mk 32 zeroK)) (sumSize _) (by rw [cellsOf_size, cellsOf_size, mk_len, mk_len]) (cellsOf_one _ _) ?_
           have E0 : Below w3.heap.size w3 ((w3.alloc (.cells (cellsOf .u8 (mk 32 zeroK)) 30)).setRow w3.heap.size (cellsOf .u8 (mk 32 (digF n g)))) := below_setRow ((Below.refl _ w3).alloc (Nat.le_refl _) _) (Nat.le_refl _) _
           have E1 : IntBlk ((w3.alloc (.cells (cellsOf .u8 (mk 32 zeroK)) 30)).setRow w3.heap.size (cellsOf .u8 (mk 32 (digF n g)))) w3.heap.size .u8 30 (mk 32 (digF n g)) := (IntBlk.new w3 .u8 _ (mk 32 zeroK)).setRow .u8 _
           change wpList _ _ _ _ _ ((w3.alloc (.cells (cellsOf .u8 (mk 32 zeroK)) 30)).setRow w3.heap.size (cellsOf .u8 (mk 32 (digF n g))))
           generalize (w3.alloc (.cells (cellsOf .u8 (mk 32 zeroK)) 30)).setRow w3.heap.size (cellsOf .u8 (mk 32 (digF n g))) = V at *
           have DS := Lib.hid E1
           have DP := Lib.hid (FP.out.below E0 FP.out.lt)
           have HL := Lib.hid (F3.out.trans (E0.mono F3.out.size))
           have D4 := Lib.hid (F4.out.below E0)
           have D5 := Lib.hid (F5.out.below E0)
           have DT := Lib.hid (FT.out.on E0)
           clear E0 E1 FP F3 F4 F5 FT))
      have c2 : Below V.heap.size V V.drew := (Below.refl _ V).drew
      have KP : ∀ W, Below V.heap.size V W → IntBlk W w2.heap.size .u8 25 (mk 64 (pieK n g)) := fun W h => DP.out.below h DP.out.lt
      have KS : ∀ W, Below V.heap.size V W → IntBlk W w3.heap.size .u8 30 (mk 32 (digF n g)) := fun W h => DS.out.below h DS.out.lt
      have KC : ∀ W, Below V.heap.size V W → BytesAt W (some ⟨w2.heap.size, 0, none⟩) 32 (pieK n g) := fun W h => .inr ⟨w2.heap.size, 0, rfl, (KP W h).lt, fun j hj => (KP W h).cells0 j (by omega)⟩
      have KG : ∀ W, Below V.heap.size V W → BytesAt W (some ⟨w3.heap.size, 0, none⟩) 32 (digF n g) := fun W h => (KS W h).bytes
      refine wp_region_tree (.float 0 (.float 1 (.float 2 (.float 3 (.float 4 (.float 5 (.float 6 (.float 7 (.float 10 (.float 11 (.two 8 (.two 9 (.one 12 (.one 13 (.float 14 (.float 15 (.float 16 .over))))) 12 (.one 9 (.one 13 (.float 14 (.float 15 (.float 16 .over)))))) 12 (.one 8 (.one 9 (.one 13 (.float 14 (.float 15 (.float 16 .over))))))))))))))))) (fun W => Below V.heap.size V W) (by kernel_rfl) (by kernel_rfl) c2 ?_
      generalize V.drew = v2 at *
      iterate 10 (
        refine tree_float rfl rfl (fun K hK => ?_)
        first
          | (refine gives_move _ rfl ?_)
          | (refine gives_cut _ _ rfl w2.heap.size 32 32 rfl rfl rfl (by omega) ?_)
          | (refine gives_string _ rfl (some ⟨w2.heap.size, 0, none⟩) 32 64 (pieK n g) rfl KC ?_; rw [HSP.out])
          | (refine gives_wholeSum _ rfl w3.heap.size rfl ?_)
          | (refine gives_string _ rfl (some ⟨w3.heap.size, 0, none⟩) 32 32 (digF n g) rfl KG ?_)
          | (refine gives_string_eql _ _ rfl _ _ _ rfl rfl rfl rfl ?_)
          | (refine gives_pick_bool _ _ _ rfl rfl _ rfl ?_)
        go_simp
        refine hK _ ?_
        clear hK K)
      refine ⟨?_, ?_⟩
      · refine tree_one rfl rfl (fun K hK => ?_)
        refine done_slice1 _ rfl pt nt ct rfl ?_
        have a_va : Below v2.heap.size v2 (v2.alloc (.cells #[.slice pt nt ct] 22)) := (Below.refl _ v2).alloc (Nat.le_refl _) _
        have k_va := cell_of_one (heap_alloc_new v2 (.cells #[.slice pt nt ct] 22))
        have ca := c2.trans (a_va.mono c2.size)
        refine ⟨ca, ?_⟩
        obtain ⟨va, h_va⟩ : ∃ va, v2.alloc (.cells #[.slice pt nt ct] 22) = va := ⟨_, rfl⟩
        rw [h_va] at a_va k_va ca ⊢
        clear h_va
        go_simp
        refine hK _ _ ?_
        clear hK K
        refine ⟨?_, ?_⟩
        · refine tree_one rfl rfl (fun K hK => ?_)
          refine done_two _ _ _ _ rfl 16 rfl (.slice p n cap) (.slice (some ⟨v2.heap.size, 0, none⟩) 1 1) rfl rfl (fun _ w => by simp [go_sem]) ((Tag_one (by omega) hcap HG.out (by omega) hct HGT.out (DT.out.on ca) (D4.out.below ca) (k_va) (D5.out.below ca)).mono fun e vb h_vb => ?_)
          obtain ⟨rfl, h_vb⟩ := h_vb
          have cb := ca.trans (h_vb.mono ca.size)
          refine ⟨_, rfl, cb, ?_⟩
          go_simp
          refine hK _ _ ?_
          clear hK K h_vb
          refine tree_one rfl rfl (fun K hK => ?_)
          refine done_slice1 _ rfl pt nt ct rfl ?_
          have a_vc : Below vb.heap.size vb (vb.alloc (.cells #[.slice pt nt ct] 22)) := (Below.refl _ vb).alloc (Nat.le_refl _) _
          have k_vc := cell_of_one (heap_alloc_new vb (.cells #[.slice pt nt ct] 22))
          have cc := cb.trans (a_vc.mono cb.size)
          refine ⟨cc, ?_⟩
          obtain ⟨vc, h_vc⟩ : ∃ vc, vb.alloc (.cells #[.slice pt nt ct] 22) = vc := ⟨_, rfl⟩
          rw [h_vc] at a_vc k_vc cc ⊢
          clear h_vc
          go_simp
          refine hK _ _ ?_
          clear hK K
          refine tree_one rfl rfl (fun K hK => ?_)
          refine done_two _ _ _ _ rfl 16 rfl (.slice (some ⟨w3.heap.size, 0, none⟩) 32 32) (.slice (some ⟨vb.heap.size, 0, none⟩) 1 1) rfl rfl (fun _ w => by simp [go_sem]) ((Tag_one (by omega) (by omega) (fun i _ => digF_lt _ _ i) (by omega) hct HGT.out (DT.out.on cc) (KS _ cc).bytes (k_vc) (D5.out.below cc)).mono fun e vd h_vd => ?_)
          obtain ⟨rfl, h_vd⟩ := h_vd
          have cd := cc.trans (h_vd.mono cc.size)
          refine ⟨_, rfl, cd, ?_⟩
          go_simp
          refine hK _ _ ?_
          clear hK K h_vd
          iterate 3 (
            refine tree_float rfl rfl (fun K hK => ?_)
            first
              | (refine gives_sum_eql _ _ rfl (tagF n g nt gt) (tagF 32 (digF n g) nt gt) rfl rfl (by rw [HTD.out]; simp) ?_)
              | (refine gives_pick_bool _ _ _ rfl rfl _ rfl ?_)
              | (refine gives_assign _ rfl ?_)
            go_simp
            refine hK _ ?_
            clear hK K)
          refine tree_over ?_
          go_wp2
          go_ret
          exact ⟨rfl, HL.out.trans (cd.mono HL.out.size)⟩
        · refine tree_one rfl rfl (fun K hK => ?_)
          refine done_slice1 _ rfl pt nt ct rfl ?_
          have a_vb : Below va.heap.size va (va.alloc (.cells #[.slice pt nt ct] 22)) := (Below.refl _ va).alloc (Nat.le_refl _) _
          have k_vb := cell_of_one (heap_alloc_new va (.cells #[.slice pt nt ct] 22))
          have cb := ca.trans (a_vb.mono ca.size)
          refine ⟨cb, ?_⟩
          obtain ⟨vb, h_vb⟩ : ∃ vb, va.alloc (.cells #[.slice pt nt ct] 22) = vb := ⟨_, rfl⟩
          rw [h_vb] at a_vb k_vb cb ⊢
          clear h_vb
          go_simp
          refine hK _ _ ?_
          clear hK K
          have k2 := (a_vb.cell (p := ⟨v2.heap.size, 0, none⟩) (block_lt_of_cell k_va)).trans k_va
          refine tree_one rfl rfl (fun K hK => ?_)
          refine done_two _ _ _ _ rfl 16 rfl (.slice p n cap) (.slice (some ⟨v2.heap.size, 0, none⟩) 1 1) rfl rfl (fun _ w => by simp [go_sem]) ((Tag_one (by omega) hcap HG.out (by omega) hct HGT.out (DT.out.on cb) (D4.out.below cb) (k2) (D5.out.below cb)).mono fun e vc h_vc => ?_)
          obtain ⟨rfl, h_vc⟩ := h_vc
          have cc := cb.trans (h_vc.mono cb.size)
          refine ⟨_, rfl, cc, ?_⟩
          go_simp
          refine hK _ _ ?_
          clear hK K
          have k3 := (h_vc.cell (p := ⟨va.heap.size, 0, none⟩) (block_lt_of_cell k_vb)).trans k_vb
          refine tree_one rfl rfl (fun K hK => ?_)
          refine done_two _ _ _ _ rfl 16 rfl (.slice (some ⟨w3.heap.size, 0, none⟩) 32 32) (.slice (some ⟨va.heap.size, 0, none⟩) 1 1) rfl rfl (fun _ w => by simp [go_sem]) ((Tag_one (by omega) (by omega) (fun i _ => digF_lt _ _ i) (by omega) hct HGT.out (DT.out.on cc) (KS _ cc).bytes (k3) (D5.out.below cc)).mono fun e vd h_vd => ?_)
          obtain ⟨rfl, h_vd⟩ := h_vd
          have cd := cc.trans (h_vd.mono cc.size)
          refine ⟨_, rfl, cd, ?_⟩
          go_simp
          refine hK _ _ ?_
          clear hK K h_vd
          iterate 3 (
            refine tree_float rfl rfl (fun K hK => ?_)
            first
              | (refine gives_sum_eql _ _ rfl (tagF n g nt gt) (tagF 32 (digF n g) nt gt) rfl rfl (by rw [HTD.out]; simp) ?_)
              | (refine gives_pick_bool _ _ _ rfl rfl _ rfl ?_)
              | (refine gives_assign _ rfl ?_)
            go_simp
            refine hK _ ?_
            clear hK K)
          refine tree_over ?_
          go_wp2
          go_ret
          exact ⟨rfl, HL.out.trans (cd.mono HL.out.size)⟩
      · refine tree_one rfl rfl (fun K hK => ?_)
        refine done_slice1 _ rfl pt nt ct rfl ?_
        have a_va : Below v2.heap.size v2 (v2.alloc (.cells #[.slice pt nt ct] 22)) := (Below.refl _ v2).alloc (Nat.le_refl _) _
        have k_va := cell_of_one (heap_alloc_new v2 (.cells #[.slice pt nt ct] 22))
        have ca := c2.trans (a_va.mono c2.size)
        refine ⟨ca, ?_⟩
        obtain ⟨va, h_va⟩ : ∃ va, v2.alloc (.cells #[.slice pt nt ct] 22) = va := ⟨_, rfl⟩
        rw [h_va] at a_va k_va ca ⊢
        clear h_va
        go_simp
        refine hK _ _ ?_
        clear hK K
        refine tree_one rfl rfl (fun K hK => ?_)
        refine done_slice1 _ rfl pt nt ct rfl ?_
        have a_vb : Below va.heap.size va (va.alloc (.cells #[.slice pt nt ct] 22)) := (Below.refl _ va).alloc (Nat.le_refl _) _
        have k_vb := cell_of_one (heap_alloc_new va (.cells #[.slice pt nt ct] 22))
        have cb := ca.trans (a_vb.mono ca.size)
        refine ⟨cb, ?_⟩
        obtain ⟨vb, h_vb⟩ : ∃ vb, va.alloc (.cells #[.slice pt nt ct] 22) = vb := ⟨_, rfl⟩
        rw [h_vb] at a_vb k_vb cb ⊢
        clear h_vb
        go_simp
        refine hK _ _ ?_
        clear hK K
        have k2 := (a_vb.cell (p := ⟨v2.heap.size, 0, none⟩) (block_lt_of_cell k_va)).trans k_va
        refine tree_one rfl rfl (fun K hK => ?_)
        refine done_two _ _ _ _ rfl 16 rfl (.slice p n cap) (.slice (some ⟨va.heap.size, 0, none⟩) 1 1) rfl rfl (fun _ w => by simp [go_sem]) ((Tag_one (by omega) hcap HG.out (by omega) hct HGT.out (DT.out.on cb) (D4.out.below cb) (k_vb) (D5.out.below cb)).mono fun e vc h_vc => ?_)
        obtain ⟨rfl, h_vc⟩ := h_vc
        have cc := cb.trans (h_vc.mono cb.size)
        refine ⟨_, rfl, cc, ?_⟩
        go_simp
        refine hK _ _ ?_
        clear hK K
        have k3 := (h_vc.cell (p := ⟨v2.heap.size, 0, none⟩) (block_lt_of_cell k2)).trans k2
        refine tree_one rfl rfl (fun K hK => ?_)
        refine done_two _ _ _ _ rfl 16 rfl (.slice (some ⟨w3.heap.size, 0, none⟩) 32 32) (.slice (some ⟨v2.heap.size, 0, none⟩) 1 1) rfl rfl (fun _ w => by simp [go_sem]) ((Tag_one (by omega) (by omega) (fun i _ => digF_lt _ _ i) (by omega) hct HGT.out (DT.out.on cc) (KS _ cc).bytes (k3) (D5.out.below cc)).mono fun e vd h_vd => ?_)
        obtain ⟨rfl, h_vd⟩ := h_vd
        have cd := cc.trans (h_vd.mono cc.size)
        refine ⟨_, rfl, cd, ?_⟩
        go_simp
        refine hK _ _ ?_
        clear hK K h_vd
        iterate 3 (
          refine tree_float rfl rfl (fun K hK => ?_)
          first
            | (refine gives_sum_eql _ _ rfl (tagF n g nt gt) (tagF 32 (digF n g) nt gt) rfl rfl (by rw [HTD.out]; simp) ?_)
            | (refine gives_pick_bool _ _ _ rfl rfl _ rfl ?_)
            | (refine gives_assign _ rfl ?_)
          go_simp
          refine hK _ ?_
          clear hK K)
        refine tree_over ?_
        go_wp2
        go_ret
        exact ⟨rfl, HL.out.trans (cd.mono HL.out.size)⟩
  · have hd : decide (4096 < n + nt) = true := decide_eq_true (by omega)
    rw [hd] at LG
    have HA := Lib.hid a0
    clear hp ht hT a0 hd hn
    go_enter Tryd.func9, Tryd.ntmps9
    go_wp2_with (first
      | (go_at_call 10; refine LG.out.mono ?_; rintro e w0 ⟨rfl, rfl⟩))
    go_ret
    exact ⟨rfl, HA.out⟩

theorem laidOut : laidOutB Tryd.prog = true := by kernel_rfl
set_option maxRecDepth 100000 in
theorem lifted (os : Os) (started : os.Started) (H : Type) (enc : TypeId × Value → H) :
    ReturnsInHanded {} Tryd.checked os 9 .any (fun w args => (Rows.macKeysSpec.pre enc Tryd.prog Tryd.f9 Rows.macKeysRow.domain false w args ∧ laidMetH Tryd.prog Rows.macKeysRow.laid w) ∧ sizedMet enc Tryd.prog Tryd.f9 (OpenSpec.ofChange Rows.macKeysSpec) false w args) (Rows.macKeysSpec.post enc Tryd.prog Tryd.f9 false true false false) := by
  refine returnsInHanded_of_change_and (C := Tryd.checked) (X := fun w _ => laidMetH Tryd.prog Rows.macKeysRow.laid w) (fun _ _ _ hh h => h.of_heap hh) own started (by kernel_rfl) Tryd.func9
    (ChangeSpec.witness_shaped (enc := enc) (C := Tryd.checked) (os := os) (X := fun w _ => laidMetH Tryd.prog Rows.macKeysRow.laid w) false (World.laidAll Tryd.prog os Rows.macKeysRow.laid) #[.slice none 0 0, .slice none 0 0] 8 (World.laidAll_os _ _ _)
      (World.shaped_of_ZipB (by kernel_rfl) (by kernel_rfl)) (by kernel_rfl) (by kernel_rfl) (by kernel_rfl)
      (by rw [MakeChecks.laidMetH_plain _ _ _ (by kernel_rfl)]; exact laidMet_laidAll _ (by kernel_rfl) (by kernel_rfl))) ?_
  intro W base args ds gs before hval0 hW hcnd hsz hL _
  have hT := tab_of_laid hL
  have hval : ∀ (j : Nat) t v, Tryd.f9.params[j]? = some t → args[j]? = some v → Value.okWide Tryd.prog W .any base t v := hval0
  have hW' := hW
  obtain ⟨p, q, hA0, hV, rfl, hfz, hnd⟩ := hW
  have hA : DataW.TrodAll enc Tryd.prog W 0 (fun _ => true) true Tryd.f9.params.toList args.toList ds p := hA0
  rw [Tryd.params9] at hA hval
  obtain ⟨v0, vs0, d0, ds0, p0, q0, hargs, rfl, rfl, h0, r0⟩ := trodAll_cons hA
  obtain ⟨v1, vs1, d1, ds1, p1, q1, rfl, rfl, rfl, h1, r1⟩ := trodAll_cons r0
  obtain ⟨rfl, rfl, rfl⟩ := trodAll_nil r1
  obtain rfl : args = #[v0, v1] := by cases args; simp_all
  obtain ⟨rfl, rfl⟩ := trodVars_none hV
  have k0 := h0
  have lt0 : ∀ x ∈ p0, x.block < W.heap.size := by obtain ⟨m, hm⟩ := k0; exact DataW.trod_lt m _ _ _ hm
  obtain ⟨q0, n0, c0, a0, rfl, w0, y0, l0, m0⟩ := open_byteslice (hval 0 22 v0 rfl rfl) h0
  have k1 := h1
  have lt1 : ∀ x ∈ p1, x.block < W.heap.size := by obtain ⟨m, hm⟩ := k1; exact DataW.trod_lt m _ _ _ hm
  obtain ⟨q1, n1, c1, a1, rfl, w1, y1, l1, m1⟩ := open_byteslice (hval 1 22 v1 rfl rfl) h1
  have z0 := open_size k0 hsz (j := 0) (by rw [Tryd.params9]; rfl) rfl
  have z1 := open_size k1 hsz (j := 1) (by rw [Tryd.params9]; rfl) rfl
  clear hA0 hval0
  refine (walk q0 n0 c0 a0 q1 n1 c1 a1 w0 l0 z0 w1 l1 z1 W hT y0 y1).mono fun e W' ⟨he, bel⟩ => ?_
  subst he
  exact ⟨_, rfl, _, _, _, [], _, [], hW', trodAll_mk1 (shut_bool Tryd.underlying4 _), (trodAll_cons_mk (Below.trod laidOut (by kernel_rfl) (of_decide_eq_true (by kernel_rfl)) k0 bel lt0) (trodAll_cons_mk (Below.trod laidOut (by kernel_rfl) (of_decide_eq_true (by kernel_rfl)) k1 bel lt1) trodAll_mk0)), rfl, bel.frame _, fun h => by cases h⟩

theorem over : Rows.macKeysRow.holds Tryd.pinned (OpenSpec.ofChange Rows.macKeysSpec) :=
  OpenClaim.holds_of_wide 9 Tryd.f9 rfl rfl rfl rfl rfl rfl rfl ⟨rfl, rfl, rfl, rfl, rfl⟩ rfl rfl rfl rfl rfl (by kernel_rfl) Tryd.func9 (by kernel_rfl)
    (of_decide_eq_true (by kernel_rfl)) (by unfold Func.isWrapper; first | (rw [if_pos (by decide +kernel)]; kernel_rfl) | (rw [if_neg (by decide +kernel)]; exact ⟨rfl, rfl⟩))
    (fun os started H enc _ => lifted os started H enc)

set_option maxRecDepth 100000 in
theorem proved : Rows.MacKeysCardSaid :=
  Claim7.holds_tied_plain_at .later [] [.data] true (true, "72f2077fc948681907f26b31a4bacbb36c81689644d2b26bb4272bed603e5c38") false
    over (fun _ h => by cases h) (by kernel_rfl) (fun _ h => by cases h) macKeys_row_tie rfl ⟨rfl, rfl⟩ (by kernel_rfl) rfl
    (fun f fn hf hfn => by
      obtain rfl : f = 9 := Option.some.inj ((show Tryd.prog.funcNamed "citadel/citadellaw05.MacKeys" = some 9 by kernel_rfl).symm.trans hf) |>.symm
      obtain rfl : fn = Tryd.f9 := (Option.some.inj (Tryd.func9.symm.trans hfn)).symm
      exact ⟨by kernel_rfl, fun j t ht => by
        rw [Tryd.params9] at ht
        rcases j with _ | _ | j
        · obtain rfl : t = 22 := by simpa using ht.symm
          exact (show Tryd.prog.wantsStandIn 22 = false by kernel_rfl)
        · obtain rfl : t = 22 := by simpa using ht.symm
          exact (show Tryd.prog.wantsStandIn 22 = false by kernel_rfl)
        · simp at ht⟩)
    (by kernel_rfl)
end Go.Proofs.YtfjbehobpkmjbaaDoor.macKeys

/- What MacParted's helper answers: true, of every key, two texts and number of noughts. Conditions: the package's variable holds the constants; no list is longer than 2^47 - 4096. -/
import Derived.Test.YtfjbehobpkmjbaaDoorPartK
namespace Go.Proofs.YtfjbehobpkmjbaaDoor
open Go.ChangeShapes Go.WideShapes Go.ChangeAt Go.RowKit
set_option linter.unusedVariables false
attribute [local irreducible] digF pieK tagF getN cat2 nouB

set_option maxRecDepth 100000 in
set_option maxHeartbeats 8000000 in
theorem parts_any (p : Option Addr) (n cap : Nat) (g : Nat → Nat) (pa : Option Addr) (na ca : Nat) (ga : Nat → Nat) (pb : Option Addr) (nb cb : Nat) (gb : Nat → Nat) (z : Int) (hg : ∀ i, i < n → g i < 256) (hcap : n ≤ cap) (hmax : n ≤ 140737488351232) (hga : ∀ i, i < na → ga i < 256) (hca : na ≤ ca) (hma : na ≤ 140737488351232) (hgb : ∀ i, i < nb → gb i < 256) (hcb : nb ≤ cb) (hmb : nb ≤ 140737488351232)
    (w : World) (hT : TabAt w) (hp : BytesAt w p n g) (xa : BytesAt w pa na ga) (xb : BytesAt w pb nb gb) :
    Calls Tryd.prog 18 #[.slice p n cap, .slice pa na ca, .slice pb nb cb, .int .i64 z] w fun e w' => e = .returned (.bool true) ∧ Below w.heap.size w w' := by
  have a0 : Below w.heap.size w (w.alloc (.cells #[.slice p n cap, .slice pa na ca, .slice pb nb cb] 22)) := (Below.refl _ w).alloc (Nat.le_refl _) _
  have cs := three_cells w (.slice p n cap) (.slice pa na ca) (.slice pb nb cb) 22
  have LG := Lib.hid (large_three (c := 3) hmax hma hmb cs.1 cs.2.1 cs.2.2)
  clear cs
  by_cases hn : n + (na + nb) ≤ 4096
  · have hd : decide (4096 < n + (na + nb)) = false := decide_eq_false (by omega)
    rw [hd] at LG
    have HP := Lib.hid (hp.below a0)
    have HQ := Lib.hid (xa.below a0)
    have HR := Lib.hid (xb.below a0)
    have HT := Lib.hid (hT.on a0)
    have HA := Lib.hid a0
    have HG := Lib.hid hg
    have hgc : ∀ i, i < na + nb → cat2 na ga gb i < 256 := cat2_lt hga hgb
    have HGC := Lib.hid hgc
    have F1 := Lib.hid (show ∀ j, j < na → ga j = cat2 na ga gb (0 + j) from fun j hj => by rw [Nat.zero_add, cat2_low hj])
    have F2 := Lib.hid (show ∀ j, j < nb → gb j = cat2 na ga gb (na + j) from fun j hj => by rw [cat2_high])
    have T2 := Lib.hid (fun B W hT hd h0 h1 ha hb => Tag_two (p := p) (n := n) (cap := cap) (g := g) (B := B) (c := 2) (pa := pa) (pb := pb) (na := na) (ca := ca) (nb := nb) (cb := cb) (ga := ga) (gb := gb) (w := W) (by omega) hcap hg (by omega) hca hcb hga hgb hT hd h0 h1 ha hb)
    clear hp xa xb hT a0 hd hg hga hgb hgc
    generalize cat2 na ga gb = gg at *
    by_cases h64 : 64 < n
    · have t0 : decide ((64 : Int) < n) = true := by simp; omega
      go_enter Tryd.func18, Tryd.ntmps18
      go_wp2_with (first
        | (go_at_call 10; refine LG.out.mono ?_; rintro e w0 ⟨rfl, hw0⟩
           rw [hw0] at HP HQ HR HT HA
           clear hw0 LG)
        | (go_at_call 16
           have a1 : Below w0.heap.size w0 (w0.alloc (.cells #[.slice pa na ca, .slice pb nb cb] 22)) := (Below.refl _ w0).alloc (Nat.le_refl _) _
           have k1 := two_cells w0 (.slice pa na ca) (.slice pb nb cb) 22
           refine (T2.out w0.heap.size _ (HT.out.on a1) (HP.out.below a1) k1.1 k1.2 (HQ.out.below a1) (HR.out.below a1)).mono ?_; rintro e w3 ⟨rfl, hb3⟩
           have b3 := a1.trans (hb3.mono a1.size)
           have C3 := Lib.hid (HA.out.trans (b3.mono HA.out.size))
           have C4 := Lib.hid (HP.out.below b3)
           have CA := Lib.hid (HQ.out.below b3)
           have CB := Lib.hid (HR.out.below b3)
           have CT := Lib.hid (HT.out.on b3)
           clear a1 k1 b3 hb3 HP HQ HR HT HA T2)
        | (refine store_row_on rfl 30 _ _ rfl rfl w3.heap.size (cellsOf .u8 (mk 32 (tagF n g (na + nb) gg))) rfl rfl 30 (cellsOf .u8 (mk 32 zeroK)) (IntBlk.new w3 .u8 _ (mk 32 zeroK)) (sumSize _) (by rw [cellsOf_size, cellsOf_size, mk_len, mk_len]) (cellsOf_one _ _) ?_
           have E0 : Below w3.heap.size w3 ((w3.alloc (.cells (cellsOf .u8 (mk 32 zeroK)) 30)).setRow w3.heap.size (cellsOf .u8 (mk 32 (tagF n g (na + nb) gg)))) := below_setRow ((Below.refl _ w3).alloc (Nat.le_refl _) _) (Nat.le_refl _) _
           have E1 : IntBlk ((w3.alloc (.cells (cellsOf .u8 (mk 32 zeroK)) 30)).setRow w3.heap.size (cellsOf .u8 (mk 32 (tagF n g (na + nb) gg)))) w3.heap.size .u8 30 (mk 32 (tagF n g (na + nb) gg)) := (IntBlk.new w3 .u8 _ (mk 32 zeroK)).setRow .u8 _
           change wpList _ _ _ _ _ ((w3.alloc (.cells (cellsOf .u8 (mk 32 zeroK)) 30)).setRow w3.heap.size (cellsOf .u8 (mk 32 (tagF n g (na + nb) gg))))
           generalize (w3.alloc (.cells (cellsOf .u8 (mk 32 zeroK)) 30)).setRow w3.heap.size (cellsOf .u8 (mk 32 (tagF n g (na + nb) gg))) = V at *
           have DS := Lib.hid E1
           have D3 := Lib.hid (C3.out.trans (E0.mono C3.out.size))
           have D4 := Lib.hid (C4.out.below E0)
           have DA := Lib.hid (CA.out.below E0)
           have DB := Lib.hid (CB.out.below E0)
           have DT := Lib.hid (CT.out.on E0)
           clear E0 E1 C3 C4 CA CB CT)
        | (refine wpList_append_own_bytes rfl (.tmp 22) (.tmp 23) rfl V.heap.size (V.heap.size + 1) 0 _ gg ga pa na ca rfl rfl (OwnS.empty V gg V.heap.size (Nat.le_refl _)) (DA.out.below ((Below.refl _ V).alloc (Nat.le_refl _) _)) F1.out (by omega) (by simp) ?_; intro v1 w4 hv1 hb1
           rw [Nat.zero_add] at hv1
           have b4 := ((Below.refl _ V).alloc (Nat.le_refl _) (.cells (cellsOf .u8 []) 5)).trans hb1
           have HV1 := Lib.hid hv1
           have L1 := Lib.hid b4
           clear hv1 hb1 b4)
        | (refine wpList_append_own_bytes rfl (.tmp 24) (.tmp 25) rfl V.heap.size w4.heap.size na v1 gg gb pb nb cb rfl rfl HV1.out (DB.out.below L1.out) F2.out (by omega) L1.out.size ?_; intro v2 w5 hv2 hb2
           obtain ⟨p2, cq, rfl, hcq, _, hB2, _⟩ := hv2.bytes (Nat.le_refl _)
           have b5 := L1.out.trans hb2
           have GS := Lib.hid (DS.out.below b5 DS.out.lt)
           have G3 := Lib.hid (D3.out.trans (b5.mono D3.out.size))
           have G4 := Lib.hid (D4.out.below b5)
           have GB := Lib.hid hB2
           have GT := Lib.hid (DT.out.on b5)
           clear hv2 hb2 hB2 b5 HV1 L1 DS D3 D4 DA DB DT))
      have c0 : Below w5.heap.size w5 w5.drew := (Below.refl _ w5).drew
      refine wp_region_tree (litTree 0 1 2 3 4 (.one 5 (.float 6 (.float 7 (.float 8 (.float 9 (.float 10 (.float 11 (.one 12 (.one 13 (.float 14 (.float 15 .over)))))))))))) (fun W => Below w5.heap.size w5 W) (by kernel_rfl) (by kernel_rfl) c0 ?_
      refine walk_lits (s0 := 27) (s1 := 28) (t0 := 29) (t1 := 30) (t2 := 31) (fA := getN exK) (fB := getN exT) rfl rfl rfl rfl rfl rfl rfl rfl rfl rfl rfl rfl rfl rfl rfl rfl rfl rfl rfl rfl (by simp) (by decide) (by decide) exK_is exT_is (by decide) (by decide) rfl rfl (fun W h => c0.trans h) ?_
      intro d1 d2 d3 v1 hv1 l1 l2 k3
      have c1 : Below w5.heap.size w5 v1 := c0.trans hv1
      simp only [litA, litB]
      go_simp
      refine tree_one rfl rfl (fun K hK => ?_)
      refine done_two _ _ _ _ rfl 16 rfl (.slice (some ⟨d1, 0, none⟩) 4 4) (.slice (some ⟨d3, 0, none⟩) 1 1) rfl rfl (fun _ w => by simp [go_sem]) ((Tag_one (by omega) (by omega) exK_lt (by omega) (by omega) exT_lt (GT.out.on c1) l1.bytes k3 l2.bytes).mono fun e v2 hv2 => ?_)
      obtain ⟨rfl, hv2⟩ := hv2
      have c2 := c1.trans (hv2.mono c1.size)
      refine ⟨_, rfl, c2, ?_⟩
      go_simp
      refine hK _ _ ?_
      clear hK K hv2 l1 l2 k3 hv1
      have KS : ∀ W, Below w5.heap.size w5 W → IntBlk W w3.heap.size .u8 30 (mk 32 (tagF n g (na + nb) gg)) := fun W h => GS.out.below h GS.out.lt
      iterate 6 (
        refine tree_float rfl rfl (fun K hK => ?_)
        first
          | (refine gives_move _ rfl ?_)
          | (refine gives_sum_index _ _ rfl (tagF 4 (getN exK) 28 (getN exT)) 1 rfl 1 rfl rfl (by omega) 220 exTag1 ?_)
          | (refine gives_u8_neq _ _ rfl 220 220 false rfl rfl rfl ?_)
          | (refine gives_row 30 _ rfl w3.heap.size .u8 (mk 32 (tagF n g (na + nb) gg)) rfl 32 5 sumUnder (sumSize _) KS ?_)
        go_simp
        refine hK _ ?_
        clear hK K)
      refine tree_one rfl rfl (fun K hK => ?_)
      refine done_slice1 _ rfl p2 (na + nb) cq rfl ?_
      have a_v3 : Below v2.heap.size v2 (v2.alloc (.cells #[.slice p2 (na + nb) cq] 22)) := (Below.refl _ v2).alloc (Nat.le_refl _) _
      have k_v3 := cell_of_one (heap_alloc_new v2 (.cells #[.slice p2 (na + nb) cq] 22))
      have c3 := c2.trans (a_v3.mono c2.size)
      refine ⟨c3, ?_⟩
      obtain ⟨v3, h_v3⟩ : ∃ v3, v2.alloc (.cells #[.slice p2 (na + nb) cq] 22) = v3 := ⟨_, rfl⟩
      rw [h_v3] at a_v3 k_v3 c3 ⊢
      clear h_v3
      go_simp
      refine hK _ _ ?_
      clear hK K
      refine tree_one rfl rfl (fun K hK => ?_)
      refine done_two _ _ _ _ rfl 16 rfl (.slice p n cap) (.slice (some ⟨v2.heap.size, 0, none⟩) 1 1) rfl rfl (fun _ w => by simp [go_sem]) ((Tag_one (by omega) hcap HG.out (by omega) hcq HGC.out (GT.out.on c3) (G4.out.below c3) k_v3 (GB.out.below c3)).mono fun e v4 h_v4 => ?_)
      obtain ⟨rfl, h_v4⟩ := h_v4
      have c4 := c3.trans (h_v4.mono c3.size)
      refine ⟨_, rfl, c4, ?_⟩
      go_simp
      refine hK _ _ ?_
      clear hK K h_v4
      iterate 2 (
        refine tree_float rfl rfl (fun K hK => ?_)
        first
          | (refine gives_sum_neq _ _ rfl (tagF n g (na + nb) gg) (tagF n g (na + nb) gg) rfl rfl (by simp) ?_)
          | (refine gives_pick_no _ _ _ rfl rfl _ rfl ?_)
        go_simp
        refine hK _ ?_
        clear hK K)
      refine tree_over ?_
      go_wp2
      go_ret
      exact ⟨rfl, G3.out.trans (c4.mono G3.out.size)⟩
    · have t0 : decide ((64 : Int) < n) = false := by simp; omega
      obtain ⟨y, hy⟩ : ∃ y : Nat, IntKind.u64.wrap z = (y : Int) := ⟨(IntKind.u64.wrap z).toNat, by rw [show IntKind.u64.wrap z = z % 18446744073709551616 from by simp [IntKind.wrap, IntKind.bits, IntKind.signed]]; omega⟩
      obtain ⟨m, hm⟩ : ∃ m, m = 65 - n := ⟨_, rfl⟩
      obtain ⟨k, hk⟩ : ∃ k, k = y % m := ⟨_, rfl⟩
      have hk2 : k < m := by rw [hk]; exact Nat.mod_lt _ (by omega)
      have q1 : IntKind.i64.wrap (65 - (n : Int)) = (m : Int) := by rw [IntWalk.i64_in _ (by omega)]; omega
      have q2 : IntKind.u64.wrap (m : Int) = (m : Int) := IntWalk.u64_in _ (by omega)
      have q3 : (y : Int).tmod (m : Int) = (k : Int) := by rw [hk, Int.ofNat_tmod]
      have q4 : IntKind.i64.wrap (k : Int) = (k : Int) := IntWalk.i64_in _ (by omega)
      have hm0 : (m : Int) ≠ 0 := by omega
      have Q1 := Lib.hid q1; have Q2 := Lib.hid q2; have Q3 := Lib.hid q3; have Q4 := Lib.hid q4; have QY := Lib.hid hy; have QM := Lib.hid hm0
      have hnk : n + k ≤ 64 := by omega
      clear q1 q2 q3 q4 hy hm0 hm hk hk2
      go_enter Tryd.func18, Tryd.ntmps18
      go_wp2_with (first
        | (go_at_call 10; refine LG.out.mono ?_; rintro e w0 ⟨rfl, hw0⟩
           rw [hw0] at HP HQ HR HT HA
           clear hw0 LG)
        | (go_at_call 16
           have a1 : Below w0.heap.size w0 (w0.alloc (.cells #[.slice pa na ca, .slice pb nb cb] 22)) := (Below.refl _ w0).alloc (Nat.le_refl _) _
           have k1 := two_cells w0 (.slice pa na ca) (.slice pb nb cb) 22
           refine (T2.out w0.heap.size _ (HT.out.on a1) (HP.out.below a1) k1.1 k1.2 (HQ.out.below a1) (HR.out.below a1)).mono ?_; rintro e w3 ⟨rfl, hb3⟩
           have b3 := a1.trans (hb3.mono a1.size)
           have C3 := Lib.hid (HA.out.trans (b3.mono HA.out.size))
           have C4 := Lib.hid (HP.out.below b3)
           have CA := Lib.hid (HQ.out.below b3)
           have CB := Lib.hid (HR.out.below b3)
           have CT := Lib.hid (HT.out.on b3)
           clear a1 k1 b3 hb3 HP HQ HR HT HA T2)
        | (refine store_row_on rfl 30 _ _ rfl rfl w3.heap.size (cellsOf .u8 (mk 32 (tagF n g (na + nb) gg))) rfl rfl 30 (cellsOf .u8 (mk 32 zeroK)) (IntBlk.new w3 .u8 _ (mk 32 zeroK)) (sumSize _) (by rw [cellsOf_size, cellsOf_size, mk_len, mk_len]) (cellsOf_one _ _) ?_
           have E0 : Below w3.heap.size w3 ((w3.alloc (.cells (cellsOf .u8 (mk 32 zeroK)) 30)).setRow w3.heap.size (cellsOf .u8 (mk 32 (tagF n g (na + nb) gg)))) := below_setRow ((Below.refl _ w3).alloc (Nat.le_refl _) _) (Nat.le_refl _) _
           have E1 : IntBlk ((w3.alloc (.cells (cellsOf .u8 (mk 32 zeroK)) 30)).setRow w3.heap.size (cellsOf .u8 (mk 32 (tagF n g (na + nb) gg)))) w3.heap.size .u8 30 (mk 32 (tagF n g (na + nb) gg)) := (IntBlk.new w3 .u8 _ (mk 32 zeroK)).setRow .u8 _
           change wpList _ _ _ _ _ ((w3.alloc (.cells (cellsOf .u8 (mk 32 zeroK)) 30)).setRow w3.heap.size (cellsOf .u8 (mk 32 (tagF n g (na + nb) gg))))
           generalize (w3.alloc (.cells (cellsOf .u8 (mk 32 zeroK)) 30)).setRow w3.heap.size (cellsOf .u8 (mk 32 (tagF n g (na + nb) gg))) = V at *
           have DS := Lib.hid E1
           have D3 := Lib.hid (C3.out.trans (E0.mono C3.out.size))
           have D4 := Lib.hid (C4.out.below E0)
           have DA := Lib.hid (CA.out.below E0)
           have DB := Lib.hid (CB.out.below E0)
           have DT := Lib.hid (CT.out.on E0)
           clear E0 E1 C3 C4 CA CB CT)
        | (refine wpList_append_own_bytes rfl (.tmp 22) (.tmp 23) rfl V.heap.size (V.heap.size + 1) 0 _ gg ga pa na ca rfl rfl (OwnS.empty V gg V.heap.size (Nat.le_refl _)) (DA.out.below ((Below.refl _ V).alloc (Nat.le_refl _) _)) F1.out (by omega) (by simp) ?_; intro v1 w4 hv1 hb1
           rw [Nat.zero_add] at hv1
           have b4 := ((Below.refl _ V).alloc (Nat.le_refl _) (.cells (cellsOf .u8 []) 5)).trans hb1
           have HV1 := Lib.hid hv1
           have L1 := Lib.hid b4
           clear hv1 hb1 b4)
        | (refine wpList_append_own_bytes rfl (.tmp 24) (.tmp 25) rfl V.heap.size w4.heap.size na v1 gg gb pb nb cb rfl rfl HV1.out (DB.out.below L1.out) F2.out (by omega) L1.out.size ?_; intro v2 w5 hv2 hb2
           obtain ⟨p2, cq, rfl, hcq, _, hB2, _⟩ := hv2.bytes (Nat.le_refl _)
           have b5 := L1.out.trans hb2
           have GS := Lib.hid (DS.out.below b5 DS.out.lt)
           have G3 := Lib.hid (D3.out.trans (b5.mono D3.out.size))
           have G4 := Lib.hid (D4.out.below b5)
           have GB := Lib.hid hB2
           have GT := Lib.hid (DT.out.on b5)
           clear hv2 hb2 hB2 b5 HV1 L1 DS D3 D4 DA DB DT))
      have c0 : Below w5.heap.size w5 w5.drew := (Below.refl _ w5).drew
      refine wp_region_tree (litTree 0 1 2 3 4 (.one 5 (.float 6 (.float 7 (.float 8 (.float 9 (.float 10 (.float 11 (.one 12 (.one 13 (.float 14 (.float 15 .over)))))))))))) (fun W => Below w5.heap.size w5 W) (by kernel_rfl) (by kernel_rfl) c0 ?_
      refine walk_lits (s0 := 27) (s1 := 28) (t0 := 29) (t1 := 30) (t2 := 31) (fA := getN exK) (fB := getN exT) rfl rfl rfl rfl rfl rfl rfl rfl rfl rfl rfl rfl rfl rfl rfl rfl rfl rfl rfl rfl (by simp) (by decide) (by decide) exK_is exT_is (by decide) (by decide) rfl rfl (fun W h => c0.trans h) ?_
      intro d1 d2 d3 v1 hv1 l1 l2 k3
      have c1 : Below w5.heap.size w5 v1 := c0.trans hv1
      simp only [litA, litB]
      go_simp
      refine tree_one rfl rfl (fun K hK => ?_)
      refine done_two _ _ _ _ rfl 16 rfl (.slice (some ⟨d1, 0, none⟩) 4 4) (.slice (some ⟨d3, 0, none⟩) 1 1) rfl rfl (fun _ w => by simp [go_sem]) ((Tag_one (by omega) (by omega) exK_lt (by omega) (by omega) exT_lt (GT.out.on c1) l1.bytes k3 l2.bytes).mono fun e v2 hv2 => ?_)
      obtain ⟨rfl, hv2⟩ := hv2
      have c2 := c1.trans (hv2.mono c1.size)
      refine ⟨_, rfl, c2, ?_⟩
      go_simp
      refine hK _ _ ?_
      clear hK K hv2 l1 l2 k3 hv1
      have KS : ∀ W, Below w5.heap.size w5 W → IntBlk W w3.heap.size .u8 30 (mk 32 (tagF n g (na + nb) gg)) := fun W h => GS.out.below h GS.out.lt
      iterate 6 (
        refine tree_float rfl rfl (fun K hK => ?_)
        first
          | (refine gives_move _ rfl ?_)
          | (refine gives_sum_index _ _ rfl (tagF 4 (getN exK) 28 (getN exT)) 1 rfl 1 rfl rfl (by omega) 220 exTag1 ?_)
          | (refine gives_u8_neq _ _ rfl 220 220 false rfl rfl rfl ?_)
          | (refine gives_row 30 _ rfl w3.heap.size .u8 (mk 32 (tagF n g (na + nb) gg)) rfl 32 5 sumUnder (sumSize _) KS ?_)
        go_simp
        refine hK _ ?_
        clear hK K)
      refine tree_one rfl rfl (fun K hK => ?_)
      refine done_slice1 _ rfl p2 (na + nb) cq rfl ?_
      have a_v3 : Below v2.heap.size v2 (v2.alloc (.cells #[.slice p2 (na + nb) cq] 22)) := (Below.refl _ v2).alloc (Nat.le_refl _) _
      have k_v3 := cell_of_one (heap_alloc_new v2 (.cells #[.slice p2 (na + nb) cq] 22))
      have c3 := c2.trans (a_v3.mono c2.size)
      refine ⟨c3, ?_⟩
      obtain ⟨v3, h_v3⟩ : ∃ v3, v2.alloc (.cells #[.slice p2 (na + nb) cq] 22) = v3 := ⟨_, rfl⟩
      rw [h_v3] at a_v3 k_v3 c3 ⊢
      clear h_v3
      go_simp
      refine hK _ _ ?_
      clear hK K
      refine tree_one rfl rfl (fun K hK => ?_)
      refine done_two _ _ _ _ rfl 16 rfl (.slice p n cap) (.slice (some ⟨v2.heap.size, 0, none⟩) 1 1) rfl rfl (fun _ w => by simp [go_sem]) ((Tag_one (by omega) hcap HG.out (by omega) hcq HGC.out (GT.out.on c3) (G4.out.below c3) k_v3 (GB.out.below c3)).mono fun e v4 h_v4 => ?_)
      obtain ⟨rfl, h_v4⟩ := h_v4
      have c4 := c3.trans (h_v4.mono c3.size)
      refine ⟨_, rfl, c4, ?_⟩
      go_simp
      refine hK _ _ ?_
      clear hK K h_v4
      iterate 2 (
        refine tree_float rfl rfl (fun K hK => ?_)
        first
          | (refine gives_sum_neq _ _ rfl (tagF n g (na + nb) gg) (tagF n g (na + nb) gg) rfl rfl (by simp) ?_)
          | (refine gives_pick_no _ _ _ rfl rfl _ rfl ?_)
        go_simp
        refine hK _ ?_
        clear hK K)
      refine tree_over ?_
      go_wp2
      have b5 : Below v4.heap.size v4 v4.drew := (Below.refl _ v4).drew
      refine wp_region_sched [(1, true), (3, true), (4, true), (5, true), (6, true), (7, true), (8, true), (9, true), (10, true), (0, false), (2, false), (11, false), (12, true)] (fun W => Below v4.heap.size v4 W) (by kernel_rfl) (by kernel_rfl) b5 ?_
      iterate 9 (
        refine walk_float rfl rfl (fun K hK => ?_)
        first
          | (refine gives_move _ rfl ?_)
          | (refine gives_to_uint _ rfl z y rfl QY.out ?_)
          | (refine gives_len _ rfl p n cap rfl ?_)
          | (refine gives_int_sub _ _ rfl 65 n m rfl rfl Q1.out ?_)
          | (refine gives_to_uint _ rfl m m rfl Q2.out ?_)
          | (refine gives_rem_uint _ _ rfl y m k rfl rfl QM.out Q3.out ?_)
          | (refine gives_to_int _ rfl k k rfl Q4.out ?_)
        go_simp
        refine hK _ ?_
        clear hK K)
      refine walk_done rfl rfl (fun K hK => ?_)
      refine done_build0 rfl ?_
      have e5 := b5.alloc (Nat.le_refl _) (.cells (cellsOf .u8 []) 5)
      refine ⟨e5, ?_⟩
      go_simp
      refine hK _ _ ?_
      clear hK K
      refine walk_done rfl rfl (fun K hK => ?_)
      obtain ⟨v6, w6, hr6, o6, hb6⟩ := append_own_run (F := nouB n g) (f := g) (v4.drew.alloc (.cells (cellsOf .u8 []) 5)) 22 (OwnS.empty v4.drew (nouB n g) v4.heap.size (Nat.le_refl _)) p n cap (G4.out.below (c4.trans (e5.mono c4.size))) (fun j hj => by rw [Nat.zero_add]; unfold nouB; rw [if_pos hj]) (by omega) e5.size
      refine done_append _ _ _ _ rfl _ _ rfl rfl v6 w6 hr6 ?_
      rw [Nat.zero_add] at o6
      have e6 := e5.trans hb6
      refine ⟨e6, ?_⟩
      go_simp
      refine hK _ _ ?_
      clear hK K hr6
      refine walk_done rfl rfl (fun K hK => ?_)
      obtain ⟨v7, w7, hr7, o7, hb7⟩ := append_zeros_own w6 22 o6 k (by omega) (fun j _ => by unfold nouB; rw [if_neg (by omega)]) e6.size
      refine done_append _ _ _ _ rfl _ _ rfl rfl v7 w7 hr7 ?_
      have e7 := e6.trans hb7
      refine ⟨e7, ?_⟩
      go_simp
      refine hK _ _ ?_
      clear hK K hr7
      obtain ⟨p7, c7, rfl, hc7, _, hB7, _⟩ := o7.bytes (Nat.le_refl _)
      iterate 1 (
        refine walk_float rfl rfl (fun K hK => ?_)
        first
          | (refine gives_assign _ rfl ?_)
        go_simp
        refine hK _ ?_
        clear hK K)
      refine walk_nil ?_
      have f7 := c4.trans (e7.mono c4.size)
      have HS7 := Lib.hid (GS.out.below f7 GS.out.lt)
      have H37 := Lib.hid (G3.out.trans (f7.mono G3.out.size))
      have HB7 := Lib.hid hB7
      have HG7 := Lib.hid (GB.out.below f7)
      have HT7 := Lib.hid (GT.out.on f7)
      clear f7 hB7 o7 o6 e5 e6 e7 hb6 hb7 b5 c0 c1 c2 c3 c4 a_v3 k_v3 GS G3 G4 GB GT KS
      go_wp2
      have c5 : Below w7.heap.size w7 w7.drew := (Below.refl _ w7).drew
      have KS : ∀ W, Below w7.heap.size w7 W → IntBlk W w3.heap.size .u8 30 (mk 32 (tagF n g (na + nb) gg)) := fun W h => HS7.out.below h HS7.out.lt
      refine wp_region_sched [(0, true), (1, true), (4, true), (2, false), (3, false), (5, true), (6, true)] (fun W => Below w7.heap.size w7 W) (by kernel_rfl) (by kernel_rfl) c5 ?_
      generalize w7.drew = u0 at *
      iterate 3 (
        refine walk_float rfl rfl (fun K hK => ?_)
        first
          | (refine gives_move _ rfl ?_)
          | (refine gives_row 30 _ rfl w3.heap.size .u8 (mk 32 (tagF n g (na + nb) gg)) rfl 32 5 sumUnder (sumSize _) KS ?_)
        go_simp
        refine hK _ ?_
        clear hK K)
      refine walk_done rfl rfl (fun K hK => ?_)
      refine done_slice1 _ rfl p2 (na + nb) cq rfl ?_
      have a_u1 : Below u0.heap.size u0 (u0.alloc (.cells #[.slice p2 (na + nb) cq] 22)) := (Below.refl _ u0).alloc (Nat.le_refl _) _
      have k_u1 := cell_of_one (heap_alloc_new u0 (.cells #[.slice p2 (na + nb) cq] 22))
      have c6 := c5.trans (a_u1.mono c5.size)
      refine ⟨c6, ?_⟩
      obtain ⟨u1, h_u1⟩ : ∃ u1, u0.alloc (.cells #[.slice p2 (na + nb) cq] 22) = u1 := ⟨_, rfl⟩
      rw [h_u1] at a_u1 k_u1 c6 ⊢
      clear h_u1
      go_simp
      refine hK _ _ ?_
      clear hK K
      refine walk_done rfl rfl (fun K hK => ?_)
      refine done_two _ _ _ _ rfl 16 rfl (.slice p7 (n + k) c7) (.slice (some ⟨u0.heap.size, 0, none⟩) 1 1) rfl rfl (fun _ w => by simp [go_sem]) ((Tag_one (by omega) hc7 (nouB_lt HG.out) (by omega) hcq HGC.out (HT7.out.on c6) (HB7.out.below c6) k_u1 (HG7.out.below c6)).mono fun e u2 h_u2 => ?_)
      obtain ⟨rfl, h_u2⟩ := h_u2
      have c8 := c6.trans (h_u2.mono c6.size)
      refine ⟨_, rfl, c8, ?_⟩
      go_simp
      refine hK _ _ ?_
      clear hK K h_u2
      iterate 2 (
        refine walk_float rfl rfl (fun K hK => ?_)
        first
          | (refine gives_sum_eql _ _ rfl (tagF (n + k) (nouB n g) (na + nb) gg) (tagF n g (na + nb) gg) rfl rfl (by rw [tagF_noughts hnk]; simp) ?_)
          | (refine gives_assign _ rfl ?_)
        go_simp
        refine hK _ ?_
        clear hK K)
      refine walk_nil ?_
      go_wp2
      go_ret
      exact ⟨rfl, H37.out.trans (c8.mono H37.out.size)⟩
  · have hd : decide (4096 < n + (na + nb)) = true := decide_eq_true (by omega)
    rw [hd] at LG
    have HA := Lib.hid a0
    clear hp xa xb hT a0 hd hn
    go_enter Tryd.func18, Tryd.ntmps18
    go_wp2_with (first
      | (go_at_call 10; refine LG.out.mono ?_; rintro e w0 ⟨rfl, rfl⟩))
    go_ret
    exact ⟨rfl, HA.out⟩
end Go.Proofs.YtfjbehobpkmjbaaDoor

/- Package mac's Tag answers what the document's does, of any key and text, and leaves what it was handed as it was: the statement MacTag, tied to the program's text. No condition. -/
import Derived.Test.YtfjbehobpkmjbaaDoorMacT
namespace Go.Proofs.YtfjbehobpkmjbaaDoor.macTag
open Go.ChangeShapes Go.WideShapes Go.ChangeAt Go.RowKit
set_option linter.unusedVariables false
attribute [local irreducible] digF pieK markF tagF getN

theorem own : ownKnob Tryd.prog.godebug = none := by kernel_rfl

set_option maxRecDepth 100000 in
set_option maxHeartbeats 4000000 in
theorem walk (p : Option Addr) (n cap : Nat) (g : Nat → Nat) (pt : Option Addr) (nt ct : Nat) (gt : Nat → Nat) (hg : ∀ i, i < n → g i < 256) (hcap : n ≤ cap) (hmax : n ≤ 140737488351232) (hgt : ∀ i, i < nt → gt i < 256) (hct : nt ≤ ct) (hmaxt : nt ≤ 140737488351232) (w : World) (hT : TabAt w) (hp : BytesAt w p n g) (ht : BytesAt w pt nt gt) :
    Calls Tryd.prog 4 #[.slice p n cap, .slice pt nt ct] w fun e w' => e = .returned (.bool true) ∧ Below w.heap.size w w' := by
  have a0 : Below w.heap.size w (w.alloc (.cells #[.slice p n cap, .slice pt nt ct] 22)) := (Below.refl _ w).alloc (Nat.le_refl _) _
  have cs := two_cells w (.slice p n cap) (.slice pt nt ct) 22
  have LG := Lib.hid (large_two (c := 2) hmax hmaxt cs.1 cs.2)
  clear cs
  by_cases hn : n + nt ≤ 4096
  · have hd : decide (4096 < n + nt) = false := decide_eq_false (by omega)
    rw [hd] at LG
    have HP := Lib.hid (hp.below a0)
    have HQ := Lib.hid (ht.below a0)
    have HT := Lib.hid (hT.on a0)
    have HA := Lib.hid a0
    have TC := Lib.hid (fun D E B W hT hd hB he => Tag_one (p := some ⟨D, 0, none⟩) (n := n) (cap := n + 2) (g := g) (B := B) (c := 1) (pt := some ⟨E, 0, none⟩) (nt := nt) (ct := nt + 2) (gt := gt) (w := W) (by omega) (by omega) hg (by omega) (by omega) hgt hT hd hB he)
    have RT := Lib.hid (fun W hp hq => refTag_any p n cap g pt nt ct gt (by omega) hg (by omega) hgt W hp hq)
    clear hp ht hT a0 hd hg hgt
    go_enter Tryd.func4, Tryd.ntmps4
    go_wp2_with (first
      | (go_at_call 10; refine LG.out.mono ?_; rintro e w0 ⟨rfl, hw0⟩
         rw [hw0] at HP HQ HT HA
         clear hw0 LG)
      | (go_at_call 11; refine (Copy_any p n cap g (by omega) w0 HP.out).mono ?_; rintro e w1 ⟨D, m, rfl, rfl, hd, hb1⟩
         have A1 := Lib.hid hd
         have A3 := Lib.hid (HA.out.trans (hb1.mono HA.out.size))
         have A4 := Lib.hid (HP.out.below hb1)
         have A5 := Lib.hid (HQ.out.below hb1)
         have AT := Lib.hid (HT.out.on hb1)
         clear hd hb1 HP HQ HT HA)
      | (go_at_call 11; refine (Copy_any pt nt ct gt (by omega) w1 A5.out).mono ?_; rintro e w2 ⟨E, m, rfl, rfl, hd, hb2⟩
         have a2 : Below w2.heap.size w2 (w2.alloc (.cells #[.slice (some ⟨E, 0, none⟩) nt (nt + 2)] 22)) := (Below.refl _ w2).alloc (Nat.le_refl _) _
         have b2 := hb2.trans (a2.mono hb2.size)
         have B1 := Lib.hid (A1.out.below b2)
         have B2 := Lib.hid (hd.below a2)
         have B3 := Lib.hid (A3.out.trans (b2.mono A3.out.size))
         have B4 := Lib.hid (A4.out.below b2)
         have B5 := Lib.hid (A5.out.below b2)
         have BT := Lib.hid (AT.out.on b2)
         have BC := Lib.hid (cell_of_one (heap_alloc_new w2 (.cells #[.slice (some ⟨E, 0, none⟩) nt (nt + 2)] 22)))
         clear hd hb2 a2 b2 A1 A3 A4 A5 AT)
      | (go_at_call 16; refine (TC.out D E w2.heap.size _ BT.out (B1.out.low rfl) BC.out (B2.out.low rfl)).mono ?_; rintro e w3 ⟨rfl, hb3⟩
         have C1 := Lib.hid (B1.out.below hb3)
         have C2 := Lib.hid (B2.out.below hb3)
         have C3 := Lib.hid (B3.out.trans (hb3.mono B3.out.size))
         have C4 := Lib.hid (B4.out.below hb3)
         have C5 := Lib.hid (B5.out.below hb3)
         have CT := Lib.hid (BT.out.on hb3)
         clear hb3 B1 B2 B3 B4 B5 BT BC TC)
      | (refine store_row_on rfl 30 _ _ rfl rfl w3.heap.size (cellsOf .u8 (mk 32 (tagF n g nt gt))) rfl rfl 30 (cellsOf .u8 (mk 32 zeroK)) (IntBlk.new w3 .u8 _ (mk 32 zeroK)) (sumSize _) (by rw [cellsOf_size, cellsOf_size, mk_len, mk_len]) (cellsOf_one _ _) ?_
         have E0 : Below w3.heap.size w3 ((w3.alloc (.cells (cellsOf .u8 (mk 32 zeroK)) 30)).setRow w3.heap.size (cellsOf .u8 (mk 32 (tagF n g nt gt)))) := below_setRow ((Below.refl _ w3).alloc (Nat.le_refl _) _) (Nat.le_refl _) _
         have E1 : IntBlk ((w3.alloc (.cells (cellsOf .u8 (mk 32 zeroK)) 30)).setRow w3.heap.size (cellsOf .u8 (mk 32 (tagF n g nt gt)))) w3.heap.size .u8 30 (mk 32 (tagF n g nt gt)) := (IntBlk.new w3 .u8 _ (mk 32 zeroK)).setRow .u8 _
         change wpList _ _ _ _ _ ((w3.alloc (.cells (cellsOf .u8 (mk 32 zeroK)) 30)).setRow w3.heap.size (cellsOf .u8 (mk 32 (tagF n g nt gt))))
         generalize (w3.alloc (.cells (cellsOf .u8 (mk 32 zeroK)) 30)).setRow w3.heap.size (cellsOf .u8 (mk 32 (tagF n g nt gt))) = V at *
         have DS := Lib.hid E1
         have D1 := Lib.hid (C1.out.below E0)
         have D2 := Lib.hid (C2.out.below E0)
         have D3 := Lib.hid (C3.out.trans (E0.mono C3.out.size))
         have D4 := Lib.hid (C4.out.below E0)
         have D5 := Lib.hid (C5.out.below E0)
         have DT := Lib.hid (CT.out.on E0)
         clear E0 E1 C1 C2 C3 C4 C5 CT))
    have c0 : Below V.heap.size V V.drew := (Below.refl _ V).drew
    refine wp_region_tree (litTree 0 1 2 3 4 (.one 5 (.float 6 (.float 7 (.float 8 (.float 9 (.float 10 (.float 11 (.one 12 (.float 13 (.float 14 (.float 15 (.float 16 (.float 17 (.one 18 (.float 19 (.float 20 (.float 21 (.float 22 (.one 23 (.float 24 (.float 25 .over)))))))))))))))))))))) (fun W => Below V.heap.size V W) (by kernel_rfl) (by kernel_rfl) c0 ?_
    refine walk_lits (s0 := 20) (s1 := 21) (t0 := 22) (t1 := 23) (t2 := 24) (fA := getN exK) (fB := getN exT) rfl rfl rfl rfl rfl rfl rfl rfl rfl rfl rfl rfl rfl rfl rfl rfl rfl rfl rfl rfl (by simp) (by decide) (by decide) exK_is exT_is (by decide) (by decide) rfl rfl (fun W h => c0.trans h) ?_
    intro d1 d2 d3 v1 hv1 l1 l2 k3
    have c1 : Below V.heap.size V v1 := c0.trans hv1
    simp only [litA, litB]
    go_simp
    refine tree_one rfl rfl (fun K hK => ?_)
    refine done_two _ _ _ _ rfl 16 rfl (.slice (some ⟨d1, 0, none⟩) 4 4) (.slice (some ⟨d3, 0, none⟩) 1 1) rfl rfl (fun _ w => by simp [go_sem]) ((Tag_one (by omega) (by omega) exK_lt (by omega) (by omega) exT_lt (DT.out.on c1) l1.bytes k3 l2.bytes).mono fun e v2 hv2 => ?_)
    obtain ⟨rfl, hv2⟩ := hv2
    have c2 := c1.trans (hv2.mono c1.size)
    refine ⟨_, rfl, c2, ?_⟩
    go_simp
    refine hK _ _ ?_
    clear hK K hv2 l1 l2 k3 hv1
    have KS : ∀ W, Below V.heap.size V W → IntBlk W w3.heap.size .u8 30 (mk 32 (tagF n g nt gt)) := fun W h => DS.out.below h DS.out.lt
    iterate 6 (
      refine tree_float rfl rfl (fun K hK => ?_)
      first
        | (refine gives_move _ rfl ?_)
        | (refine gives_sum_index _ _ rfl (tagF 4 (getN exK) 28 (getN exT)) 0 rfl 0 rfl rfl (by omega) 91 exTag0 ?_)
        | (refine gives_u8_eql _ _ rfl 91 91 true rfl rfl rfl ?_)
        | (refine gives_row 30 _ rfl w3.heap.size .u8 (mk 32 (tagF n g nt gt)) rfl 32 5 sumUnder (sumSize _) KS ?_)
      go_simp
      refine hK _ ?_
      clear hK K)
    refine tree_one rfl rfl (fun K hK => ?_)
    refine done_two _ _ _ _ rfl 17 rfl (.slice p n cap) (.slice pt nt ct) rfl rfl (fun _ w => by simp [go_sem]) ((RT.out v2 (D4.out.below c2) (D5.out.below c2)).mono fun e v3 hv3 => ?_)
    obtain ⟨rfl, hv3⟩ := hv3
    have c3 := c2.trans (hv3.mono c2.size)
    refine ⟨_, rfl, c3, ?_⟩
    go_simp
    refine hK _ _ ?_
    clear hK K hv3
    iterate 5 (
      refine tree_float rfl rfl (fun K hK => ?_)
      first
        | (refine gives_move _ rfl ?_)
        | (refine gives_sum_eql _ _ rfl (tagF n g nt gt) (tagF n g nt gt) rfl rfl (by simp) ?_)
        | (refine gives_pick_bool _ _ _ rfl rfl _ rfl ?_)
      go_simp
      refine hK _ ?_
      clear hK K)
    refine tree_one rfl rfl (fun K hK => ?_)
    refine done_two _ _ _ _ rfl 15 rfl (.slice (some ⟨D, 0, none⟩) n (n + 2)) (.slice p n cap) rfl rfl (fun _ w => by simp [go_sem]) ((Kept_any p n cap (n + 2) D g (by omega) rfl v3 (D4.out.below c3) (D1.out.below c3)).mono fun e v4 hv4 => ?_)
    obtain ⟨rfl, rfl⟩ := hv4
    refine ⟨_, rfl, c3, ?_⟩
    go_simp
    refine hK _ _ ?_
    clear hK K
    iterate 4 (
      refine tree_float rfl rfl (fun K hK => ?_)
      first
        | (refine gives_move _ rfl ?_)
        | (refine gives_pick_bool _ _ _ rfl rfl _ rfl ?_)
      go_simp
      refine hK _ ?_
      clear hK K)
    refine tree_one rfl rfl (fun K hK => ?_)
    refine done_two _ _ _ _ rfl 15 rfl (.slice (some ⟨E, 0, none⟩) nt (nt + 2)) (.slice pt nt ct) rfl rfl (fun _ w => by simp [go_sem]) ((Kept_any pt nt ct (nt + 2) E gt (by omega) rfl v3 (D5.out.below c3) (D2.out.below c3)).mono fun e v4 hv4 => ?_)
    obtain ⟨rfl, rfl⟩ := hv4
    refine ⟨_, rfl, c3, ?_⟩
    go_simp
    refine hK _ _ ?_
    clear hK K
    iterate 2 (
      refine tree_float rfl rfl (fun K hK => ?_)
      first
        | (refine gives_assign _ rfl ?_)
        | (refine gives_pick_bool _ _ _ rfl rfl _ rfl ?_)
      go_simp
      refine hK _ ?_
      clear hK K)
    refine tree_over ?_
    go_wp2
    go_ret
    exact ⟨rfl, D3.out.trans (c3.mono D3.out.size)⟩
  · have hd : decide (4096 < n + nt) = true := decide_eq_true (by omega)
    rw [hd] at LG
    have HA := Lib.hid a0
    clear hp ht hT a0 hd hn
    go_enter Tryd.func4, Tryd.ntmps4
    go_wp2_with (first
      | (go_at_call 10; refine LG.out.mono ?_; rintro e w0 ⟨rfl, rfl⟩))
    go_ret
    exact ⟨rfl, HA.out⟩

theorem laidOut : laidOutB Tryd.prog = true := by kernel_rfl
set_option maxRecDepth 100000 in
theorem lifted (os : Os) (started : os.Started) (H : Type) (enc : TypeId × Value → H) :
    ReturnsInHanded {} Tryd.checked os 4 .any (fun w args => (Rows.macTagSpec.pre enc Tryd.prog Tryd.f4 Rows.macTagRow.domain false w args ∧ laidMetH Tryd.prog Rows.macTagRow.laid w) ∧ sizedMet enc Tryd.prog Tryd.f4 (OpenSpec.ofChange Rows.macTagSpec) false w args) (Rows.macTagSpec.post enc Tryd.prog Tryd.f4 false true false false) := by
  refine returnsInHanded_of_change_and (C := Tryd.checked) (X := fun w _ => laidMetH Tryd.prog Rows.macTagRow.laid w) (fun _ _ _ hh h => h.of_heap hh) own started (by kernel_rfl) Tryd.func4
    (ChangeSpec.witness_shaped (enc := enc) (C := Tryd.checked) (os := os) (X := fun w _ => laidMetH Tryd.prog Rows.macTagRow.laid w) false (World.laidAll Tryd.prog os Rows.macTagRow.laid) #[.slice none 0 0, .slice none 0 0] 8 (World.laidAll_os _ _ _)
      (World.shaped_of_ZipB (by kernel_rfl) (by kernel_rfl)) (by kernel_rfl) (by kernel_rfl) (by kernel_rfl)
      (by rw [MakeChecks.laidMetH_plain _ _ _ (by kernel_rfl)]; exact laidMet_laidAll _ (by kernel_rfl) (by kernel_rfl))) ?_
  intro W base args ds gs before hval0 hW hcnd hsz hL _
  have hT := tab_of_laid hL
  have hval : ∀ (j : Nat) t v, Tryd.f4.params[j]? = some t → args[j]? = some v → Value.okWide Tryd.prog W .any base t v := hval0
  have hW' := hW
  obtain ⟨p, q, hA0, hV, rfl, hfz, hnd⟩ := hW
  have hA : DataW.TrodAll enc Tryd.prog W 0 (fun _ => true) true Tryd.f4.params.toList args.toList ds p := hA0
  rw [Tryd.params4] at hA hval
  obtain ⟨v0, vs0, d0, ds0, p0, q0, hargs, rfl, rfl, h0, r0⟩ := trodAll_cons hA
  obtain ⟨v1, vs1, d1, ds1, p1, q1, rfl, rfl, rfl, h1, r1⟩ := trodAll_cons r0
  obtain ⟨rfl, rfl, rfl⟩ := trodAll_nil r1
  obtain rfl : args = #[v0, v1] := by cases args; simp_all
  obtain ⟨rfl, rfl⟩ := trodVars_none hV
  have k0 := h0
  have lt0 : ∀ x ∈ p0, x.block < W.heap.size := by obtain ⟨m, hm⟩ := k0; exact DataW.trod_lt m _ _ _ hm
  obtain ⟨q0, n0, c0, a0, rfl, w0, y0, l0, m0⟩ := open_byteslice (hval 0 22 v0 rfl rfl) h0
  have k1 := h1
  have lt1 : ∀ x ∈ p1, x.block < W.heap.size := by obtain ⟨m, hm⟩ := k1; exact DataW.trod_lt m _ _ _ hm
  obtain ⟨q1, n1, c1, a1, rfl, w1, y1, l1, m1⟩ := open_byteslice (hval 1 22 v1 rfl rfl) h1
  have z0 := open_size k0 hsz (j := 0) (by rw [Tryd.params4]; rfl) rfl
  have z1 := open_size k1 hsz (j := 1) (by rw [Tryd.params4]; rfl) rfl
  clear hA0 hval0
  refine (walk q0 n0 c0 a0 q1 n1 c1 a1 w0 l0 z0 w1 l1 z1 W hT y0 y1).mono fun e W' ⟨he, bel⟩ => ?_
  subst he
  exact ⟨_, rfl, _, _, _, [], _, [], hW', trodAll_mk1 (shut_bool Tryd.underlying4 _), (trodAll_cons_mk (Below.trod laidOut (by kernel_rfl) (of_decide_eq_true (by kernel_rfl)) k0 bel lt0) (trodAll_cons_mk (Below.trod laidOut (by kernel_rfl) (of_decide_eq_true (by kernel_rfl)) k1 bel lt1) trodAll_mk0)), rfl, bel.frame _, fun h => by cases h⟩

theorem over : Rows.macTagRow.holds Tryd.pinned (OpenSpec.ofChange Rows.macTagSpec) :=
  OpenClaim.holds_of_wide 4 Tryd.f4 rfl rfl rfl rfl rfl rfl rfl ⟨rfl, rfl, rfl, rfl, rfl⟩ rfl rfl rfl rfl rfl (by kernel_rfl) Tryd.func4 (by kernel_rfl)
    (of_decide_eq_true (by kernel_rfl)) (by unfold Func.isWrapper; first | (rw [if_pos (by decide +kernel)]; kernel_rfl) | (rw [if_neg (by decide +kernel)]; exact ⟨rfl, rfl⟩))
    (fun os started H enc _ => lifted os started H enc)

set_option maxRecDepth 100000 in
theorem proved : Rows.MacTagCardSaid :=
  Claim7.holds_tied_plain_at .later [] [.data] true (true, "72f2077fc948681907f26b31a4bacbb36c81689644d2b26bb4272bed603e5c38") false
    over (fun _ h => by cases h) (by kernel_rfl) (fun _ h => by cases h) macTag_row_tie rfl ⟨rfl, rfl⟩ (by kernel_rfl) rfl
    (fun f fn hf hfn => by
      obtain rfl : f = 4 := Option.some.inj ((show Tryd.prog.funcNamed "citadel/citadellaw05.MacTag" = some 4 by kernel_rfl).symm.trans hf) |>.symm
      obtain rfl : fn = Tryd.f4 := (Option.some.inj (Tryd.func4.symm.trans hfn)).symm
      exact ⟨by kernel_rfl, fun j t ht => by
        rw [Tryd.params4] at ht
        rcases j with _ | _ | j
        · obtain rfl : t = 22 := by simpa using ht.symm
          exact (show Tryd.prog.wantsStandIn 22 = false by kernel_rfl)
        · obtain rfl : t = 22 := by simpa using ht.symm
          exact (show Tryd.prog.wantsStandIn 22 = false by kernel_rfl)
        · simp at ht⟩)
    (by kernel_rfl)
end Go.Proofs.YtfjbehobpkmjbaaDoor.macTag

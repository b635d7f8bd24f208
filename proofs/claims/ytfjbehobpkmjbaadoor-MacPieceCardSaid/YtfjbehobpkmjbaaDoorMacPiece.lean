/- Package mac's Piece answers what the document's does, of any key, and leaves what it was handed as it was: the statement MacPiece, tied to the program's text. No condition. -/
import Derived.Test.YtfjbehobpkmjbaaDoorMacL
import Derived.Test.YtfjbehobpkmjbaaDoorMacRef
import Derived.Test.YtfjbehobpkmjbaaDoorDigLib
namespace Go.Proofs.YtfjbehobpkmjbaaDoor.macPiece
open Go.ChangeShapes Go.WideShapes Go.ChangeAt Go.RowKit
set_option linter.unusedVariables false
attribute [local irreducible] digF pieK markF sev

theorem own : ownKnob Tryd.prog.godebug = none := by kernel_rfl

set_option maxRecDepth 100000 in
set_option maxHeartbeats 2000000 in
theorem walk (p : Option Addr) (n cap : Nat) (g : Nat → Nat) (hg : ∀ i, i < n → g i < 256) (hcap : n ≤ cap) (hmax : n ≤ 140737488351232) (w : World) (hT : TabAt w) (hp : BytesAt w p n g) :
    Calls Tryd.prog 3 #[.slice p n cap] w fun e w' => e = .returned (.bool true) ∧ Below w.heap.size w w' := by
  have a0 : Below w.heap.size w (w.alloc (.cells #[.slice p n cap] 22)) := (Below.refl _ w).alloc (Nat.le_refl _) _
  have hl1 : lenTo (fun _ => (p, n, cap)) 1 = n := by show 0 + n = n; omega
  have LG := Lib.hid (large_any (some ⟨w.heap.size, 0, none⟩) 1 1 (fun _ => (p, n, cap)) (by omega) (fun _ _ => hmax) _ (.inr ⟨w.heap.size, 0, rfl, fun i hi => by
    obtain rfl : i = 0 := by omega
    exact cell_of_one (heap_alloc_new w (.cells #[.slice p n cap] 22))⟩))
  rw [hl1] at LG
  by_cases hn : n ≤ 4096
  · have hd : decide (4096 < n) = false := decide_eq_false (by omega)
    rw [hd] at LG
    have HP := Lib.hid (hp.below a0)
    have HT := Lib.hid (hT.on a0)
    have HA := Lib.hid a0
    have HG := Lib.hid hg
    have PC := Lib.hid (fun D W hT hd => Piece_any (some ⟨D, 0, none⟩) n (n + 2) g (by omega) (by omega) hg W hT hd)
    clear hp hT a0 hl1 hd hg
    go_enter Tryd.func3, Tryd.ntmps3
    go_wp2_with (first
      | (go_at_call 10; refine LG.out.mono ?_; rintro e w0 ⟨rfl, hw0⟩
         rw [hw0] at HP HT HA
         clear hw0 LG)
      | (go_at_call 11; refine (Copy_any p n cap g (by omega) _ HP.out).mono ?_; rintro e w1 ⟨D, m, rfl, rfl, hd, hb1⟩
         have A2 := Lib.hid hd
         have A3 := Lib.hid (HA.out.trans (hb1.mono HA.out.size))
         have A4 := Lib.hid (HP.out.below hb1)
         have AT := Lib.hid (HT.out.on hb1)
         clear hd hb1 HP HT HA)
      | (go_at_call 12; refine (PC.out D _ AT.out (A2.out.low rfl)).mono ?_; rintro e w2 ⟨rfl, hb2⟩
         have B2 := Lib.hid (A2.out.below hb2)
         have B3 := Lib.hid (A3.out.trans (hb2.mono A3.out.size))
         have B4 := Lib.hid (A4.out.below hb2)
         have BT := Lib.hid (AT.out.on hb2)
         clear hb2 A2 A3 A4 AT PC)
      | (refine store_row_on rfl 25 _ _ rfl rfl w2.heap.size (cellsOf .u8 (mk 64 (pieK n g))) rfl rfl 25 (cellsOf .u8 (mk 64 zeroK)) (IntBlk.new w2 .u8 _ (mk 64 zeroK)) (pieceSize _) (by rw [cellsOf_size, cellsOf_size, mk_len, mk_len]) (cellsOf_one _ _) ?_
         have E0 : Below w2.heap.size w2 ((w2.alloc (.cells (cellsOf .u8 (mk 64 zeroK)) 25)).setRow w2.heap.size (cellsOf .u8 (mk 64 (pieK n g)))) := below_setRow ((Below.refl _ w2).alloc (Nat.le_refl _) _) (Nat.le_refl _) _
         have E1 : IntBlk ((w2.alloc (.cells (cellsOf .u8 (mk 64 zeroK)) 25)).setRow w2.heap.size (cellsOf .u8 (mk 64 (pieK n g)))) w2.heap.size .u8 25 (mk 64 (pieK n g)) := (IntBlk.new w2 .u8 _ (mk 64 zeroK)).setRow .u8 _
         change wpList _ _ _ _ _ ((w2.alloc (.cells (cellsOf .u8 (mk 64 zeroK)) 25)).setRow w2.heap.size (cellsOf .u8 (mk 64 (pieK n g))))
         generalize (w2.alloc (.cells (cellsOf .u8 (mk 64 zeroK)) 25)).setRow w2.heap.size (cellsOf .u8 (mk 64 (pieK n g))) = V at *
         have C1 := Lib.hid E1
         have C2 := Lib.hid (B2.out.below E0)
         have C3 := Lib.hid (B3.out.trans (E0.mono B3.out.size))
         have C4 := Lib.hid (B4.out.below E0)
         have CT := Lib.hid (BT.out.on E0)
         clear E0 E1 B2 B3 B4 BT))
    have c0 : Below V.heap.size V V.drew := (Below.refl _ V).drew
    refine wp_region_sched [(2, true), (0, false), (1, false), (3, true), (4, true), (5, true), (6, true), (7, false), (8, false), (9, true), (10, true), (11, true), (12, true), (13, false), (14, true), (15, true)] (fun W => Below V.heap.size V W) (by kernel_rfl) (by kernel_rfl) c0 ?_
    refine walk_float rfl rfl (fun K hK => ?_)
    refine gives_sev rfl ?_
    go_simp
    refine hK _ ?_
    clear hK K
    refine walk_done rfl rfl (fun K hK => ?_)
    refine done_buildFlat 1 _ rfl [(7 : Int)] rfl (by omega) (by omega) rfl ?_
    have d1 : Below V.drew.heap.size V.drew (V.drew.alloc (.cells (cellsOf .u8 [(7 : Int)]) 5)) := (Below.refl _ _).alloc (Nat.le_refl _) _
    have l1 := bytesAt_lit V.drew 1 (fun _ => 7) [(7 : Int)] rfl
    have c1 := c0.trans d1
    refine ⟨c1, ?_⟩
    generalize V.drew.alloc (.cells (cellsOf .u8 [(7 : Int)]) 5) = v1 at *
    go_simp
    refine hK _ _ ?_
    clear hK K d1
    refine walk_done rfl rfl (fun K hK => ?_)
    refine done_call1 _ _ _ rfl 12 rfl (.slice (some ⟨V.heap.size, 0, none⟩) 1 1) rfl (fun _ w => by simp [go_sem]) _ (Piece_any (some ⟨V.heap.size, 0, none⟩) 1 1 (fun _ => 7) (by omega) (by omega) (fun _ _ => by omega) v1 (CT.out.on c1) l1) ?_
    intro v2 hv2
    have c2 := c1.trans (hv2.mono c1.size)
    refine ⟨c2, ?_⟩
    go_simp
    refine hK _ _ ?_
    clear hK K hv2 l1
    iterate 4 (
      refine walk_float rfl rfl (fun K hK => ?_)
      first
        | (refine gives_move _ rfl ?_)
        | (refine gives_piece_eql _ _ rfl (pieK 1 fun _ => 7) sev rfl rfl (by rw [pieK_sev]; simp) ?_)
        | (refine gives_whole _ rfl w2.heap.size rfl ?_)
      go_simp
      refine hK _ ?_
      clear hK K)
    refine walk_done rfl rfl (fun K hK => ?_)
    refine done_one _ _ _ rfl 14 rfl (.slice p n cap) rfl (fun _ w => by simp [go_sem]) ((refPiece_any p n cap g (by omega) HG.out v2 (C4.out.below c2)).mono fun e v3 hv3 => ?_)
    obtain ⟨p3, c3', rfl, hc3, hb3, hl3⟩ := hv3
    have c3 := c2.trans (hl3.mono c2.size)
    refine ⟨_, rfl, c3, ?_⟩
    go_simp
    refine hK _ _ ?_
    clear hK K hl3
    refine walk_done rfl rfl (fun K hK => ?_)
    refine done_two _ _ _ _ rfl 13 rfl (.slice (some ⟨w2.heap.size, 0, none⟩) 64 64) (.slice p3 64 c3') rfl rfl (fun _ w => by simp [go_sem]) ((Same_eq _ p3 64 64 c3' (pieK n g) (pieK n g) v3 (C1.out.below c3 C1.out.lt).bytes hb3 rfl).mono fun e v4 hv4 => ?_)
    obtain ⟨rfl, rfl⟩ := hv4
    refine ⟨_, rfl, c3, ?_⟩
    go_simp
    refine hK _ _ ?_
    clear hK K
    iterate 4 (
      refine walk_float rfl rfl (fun K hK => ?_)
      first
        | (refine gives_move _ rfl ?_)
        | (refine gives_pick_bool _ _ _ rfl rfl _ rfl ?_)
      go_simp
      refine hK _ ?_
      clear hK K)
    refine walk_done rfl rfl (fun K hK => ?_)
    refine done_two _ _ _ _ rfl 15 rfl (.slice (some ⟨D, 0, none⟩) n (n + 2)) (.slice p n cap) rfl rfl (fun _ w => by simp [go_sem]) ((Kept_any p n cap (n + 2) D g (by omega) rfl v3 (C4.out.below c3) (C2.out.below c3)).mono fun e v4 hv4 => ?_)
    obtain ⟨rfl, rfl⟩ := hv4
    refine ⟨_, rfl, c3, ?_⟩
    go_simp
    refine hK _ _ ?_
    clear hK K
    iterate 2 (
      refine walk_float rfl rfl (fun K hK => ?_)
      first
        | (refine gives_assign _ rfl ?_)
        | (refine gives_pick_bool _ _ _ rfl rfl _ rfl ?_)
      go_simp
      refine hK _ ?_
      clear hK K)
    refine walk_nil ?_
    go_wp2
    go_ret
    exact ⟨rfl, C3.out.trans (c3.mono C3.out.size)⟩
  · have hd : decide (4096 < n) = true := decide_eq_true (by omega)
    rw [hd] at LG
    have HA := Lib.hid a0
    clear hp hT a0 hl1 hd hn
    go_enter Tryd.func3, Tryd.ntmps3
    go_wp2_with (first
      | (go_at_call 10; refine LG.out.mono ?_; rintro e w0 ⟨rfl, rfl⟩))
    go_ret
    exact ⟨rfl, HA.out⟩

theorem laidOut : laidOutB Tryd.prog = true := by kernel_rfl
set_option maxRecDepth 100000 in
theorem lifted (os : Os) (started : os.Started) (H : Type) (enc : TypeId × Value → H) :
    ReturnsInHanded {} Tryd.checked os 3 .any (fun w args => (Rows.macPieceSpec.pre enc Tryd.prog Tryd.f3 Rows.macPieceRow.domain false w args ∧ laidMetH Tryd.prog Rows.macPieceRow.laid w) ∧ sizedMet enc Tryd.prog Tryd.f3 (OpenSpec.ofChange Rows.macPieceSpec) false w args) (Rows.macPieceSpec.post enc Tryd.prog Tryd.f3 false true false false) := by
  refine returnsInHanded_of_change_and (C := Tryd.checked) (X := fun w _ => laidMetH Tryd.prog Rows.macPieceRow.laid w) (fun _ _ _ hh h => h.of_heap hh) own started (by kernel_rfl) Tryd.func3
    (ChangeSpec.witness_shaped (enc := enc) (C := Tryd.checked) (os := os) (X := fun w _ => laidMetH Tryd.prog Rows.macPieceRow.laid w) false (World.laidAll Tryd.prog os Rows.macPieceRow.laid) #[.slice none 0 0] 8 (World.laidAll_os _ _ _)
      (World.shaped_of_ZipB (by kernel_rfl) (by kernel_rfl)) (by kernel_rfl) (by kernel_rfl) (by kernel_rfl)
      (by rw [MakeChecks.laidMetH_plain _ _ _ (by kernel_rfl)]; exact laidMet_laidAll _ (by kernel_rfl) (by kernel_rfl))) ?_
  intro W base args ds gs before hval0 hW hcnd hsz hL _
  have hT := tab_of_laid hL
  have hval : ∀ (j : Nat) t v, Tryd.f3.params[j]? = some t → args[j]? = some v → Value.okWide Tryd.prog W .any base t v := hval0
  have hW' := hW
  obtain ⟨p, q, hA0, hV, rfl, hfz, hnd⟩ := hW
  have hA : DataW.TrodAll enc Tryd.prog W 0 (fun _ => true) true Tryd.f3.params.toList args.toList ds p := hA0
  rw [Tryd.params3] at hA hval
  obtain ⟨v0, vs0, d0, ds0, p0, q0, hargs, rfl, rfl, h0, r0⟩ := trodAll_cons hA
  obtain ⟨rfl, rfl, rfl⟩ := trodAll_nil r0
  obtain rfl : args = #[v0] := by cases args; simp_all
  obtain ⟨rfl, rfl⟩ := trodVars_none hV
  have k0 := h0
  have lt0 : ∀ x ∈ p0, x.block < W.heap.size := by obtain ⟨m, hm⟩ := k0; exact DataW.trod_lt m _ _ _ hm
  obtain ⟨q0, n0, c0, a0, rfl, w0, y0, l0, m0⟩ := open_byteslice (hval 0 22 v0 rfl rfl) h0
  have z0 := open_size k0 hsz (j := 0) (by rw [Tryd.params3]; rfl) rfl
  clear hA0 hval0
  refine (walk q0 n0 c0 a0 w0 l0 z0 W hT y0).mono fun e W' ⟨he, bel⟩ => ?_
  subst he
  exact ⟨_, rfl, _, _, _, [], _, [], hW', trodAll_mk1 (shut_bool Tryd.underlying4 _), (trodAll_cons_mk (Below.trod laidOut (by kernel_rfl) (of_decide_eq_true (by kernel_rfl)) k0 bel lt0) trodAll_mk0), rfl, bel.frame _, fun h => by cases h⟩

theorem over : Rows.macPieceRow.holds Tryd.pinned (OpenSpec.ofChange Rows.macPieceSpec) :=
  OpenClaim.holds_of_wide 3 Tryd.f3 rfl rfl rfl rfl rfl rfl rfl ⟨rfl, rfl, rfl, rfl, rfl⟩ rfl rfl rfl rfl rfl (by kernel_rfl) Tryd.func3 (by kernel_rfl)
    (of_decide_eq_true (by kernel_rfl)) (by unfold Func.isWrapper; first | (rw [if_pos (by decide +kernel)]; kernel_rfl) | (rw [if_neg (by decide +kernel)]; exact ⟨rfl, rfl⟩))
    (fun os started H enc _ => lifted os started H enc)

set_option maxRecDepth 100000 in
theorem proved : Rows.MacPieceCardSaid :=
  Claim7.holds_tied_plain_at .later [] [.data] true (true, "72f2077fc948681907f26b31a4bacbb36c81689644d2b26bb4272bed603e5c38") false
    over (fun _ h => by cases h) (by kernel_rfl) (fun _ h => by cases h) macPiece_row_tie rfl ⟨rfl, rfl⟩ (by kernel_rfl) rfl
    (fun f fn hf hfn => by
      obtain rfl : f = 3 := Option.some.inj ((show Tryd.prog.funcNamed "citadel/citadellaw05.MacPiece" = some 3 by kernel_rfl).symm.trans hf) |>.symm
      obtain rfl : fn = Tryd.f3 := (Option.some.inj (Tryd.func3.symm.trans hfn)).symm
      exact ⟨by kernel_rfl, fun j t ht => by
        rw [Tryd.params3] at ht
        rcases j with _ | j
        · obtain rfl : t = 22 := by simpa using ht.symm
          exact (show Tryd.prog.wantsStandIn 22 = false by kernel_rfl)
        · simp at ht⟩)
    (by kernel_rfl)
end Go.Proofs.YtfjbehobpkmjbaaDoor.macPiece

/- The contract of package tree's Build: the tree over sixteen leaves, in new memory; or ErrForm. Conditions: the package's variable holds the constants; the key has no more than 80,000 bytes; tags have 32 bytes. -/
import Derived.Test.YtbdldnhpgpjnoaaDoorTrBuildN
import Derived.Test.YtbdldnhpgpjnoaaDoorTrMake
namespace Go.Proofs.YtbdldnhpgpjnoaaDoor
open Go.ChangeShapes Go.WideShapes Go.ChangeAt Go.RowKit
set_option linter.unusedVariables false
attribute [local irreducible] nought sumVal sumC tagAt nodeN treeL bldT
theorem Build_no (kp : Option Addr) (n kc : Nat) (q : Option Addr) (m cap : Nat) (h : m ≠ 16) (w : World) :
    Calls Tryd.prog 15 #[.slice kp n kc, .slice q m cap] w fun e w' => e = .returned (.tuple #[.slice none 0 0, .iface 49 (.int .i64 2)]) ∧ w = w' := by
  have d1 : (!decide ((m : Int) = 16)) = true := by simp; omega
  have d2 : ¬ ((m : Int) = 16) := by omega
  go_enter Tryd.func15, Tryd.ntmps15
  go_wp2
  go_ret2
  exact ⟨rfl, rfl⟩
set_option maxRecDepth 100000 in
set_option maxHeartbeats 4000000 in
theorem Build_any (kp : Option Addr) (n kc : Nat) (g : Nat → Nat) (hn : n ≤ 80000) (q : Option Addr) (cap : Nat) (m : List (List Int)) (h16 : m.length = 16) (hs : ∀ t ∈ m, IsSum t) (w : World) (hk : KeyAt w kp n kc g) (hq : RowsAt 32 sumC w q m) :
    Calls Tryd.prog 15 #[.slice kp n kc, .slice q 16 cap] w fun e w' => e = .returned (.tuple #[.slice (some ⟨w.heap.size, 0, none⟩) 32 32, .nilIface]) ∧ SumsB w' w.heap.size (treeL n g m) ∧ Below w.heap.size w w' := by
  have HQ := Lib.hid hq
  have ND := Lib.hid (fun (i a b : Nat) (hi : i < 16) (ha : a < 32) (hb : b < 32) (ha1 : i < a) (hb1 : i < b) (W : World) (hb : Below w.heap.size w W) => Node_any kp n kc g hn (i : Int) (tagAt (bldT n g m i) a) (tagAt (bldT n g m i) b) (by rw [bldT_at (by omega) ha1]; exact treeN_sum h16 hs (by omega)) (by rw [bldT_at (by omega) hb1]; exact treeN_sum h16 hs (by omega)) W (hk.below hb))
  have BL := Lib.hid (fun k => bldT_len n g m k)
  have BS := Lib.hid (bldT_start (n := n) (g := g) h16)
  have BN := Lib.hid (fun k (hk : k + 1 < 16) => bldT_step (n := n) (g := g) (m := m) hk)
  have BZ := Lib.hid (bldT_zero n g m)
  have HM := Lib.hid h16
  clear hk hq hn hs
  generalize hS : w.heap.size = S at *
  have HS := Lib.hid hS
  clear hS
  go_enter Tryd.func15, Tryd.ntmps15
  go_wp2_with (first
    | (refine wpList_make_sums rfl _ _ rfl 32 rfl rfl (by decide) (by decide) ?_; intro w1 h1 hb
       rw [HS.out] at h1 hb ⊢
       have D1 := Lib.hid h1; have B1 := Lib.hid hb; clear h1 hb)
    | (refine wpList_sums_from rfl _ _ rfl S 32 32 16 rfl rfl (by decide) (by decide) (by decide) ?_)
    | (refine wpList_copy_sums rfl _ _ rfl S 16 16 16 q 16 cap (List.replicate 32 nought) m rfl rfl HM.out.symm (by decide) (by decide) (HQ.out.below (HS.out.symm ▸ B1.out)) D1.out (by rw [HM.out]; simp) ?_; intro v w2 h2 hb hs
       rw [BS.out] at h2
       have D2 := Lib.hid h2; have B2 := Lib.hid (B1.out.trans (hb.below (M := S) (Nat.le_refl _) (by have := D1.out.lt; omega))); clear h2 hb hs D1 B1 h16))
  go_loopw [7] (fun v7 wr => ∃ k : Nat, k < 16 ∧ v7 = .int .i64 k ∧ SumsB wr S (bldT n g m k) ∧ Below S w wr) (fun v7 _ => (intOf v7).toNat)
  case atStart => exact ⟨15, by omega, rfl, D2.out, B2.out⟩
  case round =>
    obtain ⟨k, hk, rfl, hd, hb⟩ := hrel
    have DD := Lib.hid hd; have BB := Lib.hid hb
    clear hd hb D2 B2
    by_cases h0 : k = 0
    · subst h0
      go_wp2
      go_ret2
      exact ⟨rfl, by rw [← BZ.out]; exact DD.out, BB.out⟩
    · obtain ⟨j, rfl⟩ : ∃ j, k = j + 1 := ⟨k - 1, by omega⟩
      have BNK := Lib.hid (BN.out j hk)
      have BLK := Lib.hid (BL.out (j + 1))
      have NDK := Lib.hid (fun a b => ND.out (j + 1) a b hk)
      have HJ := Lib.hid (show (( (j + 1 : Nat) : Int) - 1) = (j : Int) by omega)
      have e1 : decide ((1 : Int) ≤ ((j + 1 : Nat) : Int)) = true := decide_eq_true (by omega)
      have NDN := Lib.hid (fun (a b : List Int) => show nodeV n g (IntKind.u8.wrap ((j + 1 : Nat) : Int)) a b = nodeN n g (j + 1) a b by unfold nodeN; rfl)
      obtain ⟨a0, ha0⟩ : ∃ a0, a0 = 2 * (j + 1) := ⟨_, rfl⟩
      obtain ⟨a1, ha1⟩ : ∃ a1, a1 = 2 * (j + 1) + 1 := ⟨_, rfl⟩
      rw [← ha1, ← ha0] at BNK
      have A0 := Lib.hid ha0; have A1 := Lib.hid ha1
      clear ND BN BL h0 ha0 ha1
      obtain ⟨pk, hpk⟩ : ∃ pk, pk = j + 1 := ⟨_, rfl⟩
      rw [← hpk] at BNK BLK NDK HJ e1 DD hk A0 A1 NDN ⊢
      have hp1 : 1 ≤ pk := by omega
      have HPK := Lib.hid hpk
      have HP1 := Lib.hid hp1
      have HK16 := Lib.hid hk
      clear hpk hp1 hk
      have M0 := Lib.hid (show IntKind.i64.wrap (2 * (pk : Int)) = (a0 : Nat) by have := A0.out; have := HK16.out; rw [IntWalk.i64_in _ (by omega)]; omega)
      have M1 := Lib.hid (show IntKind.i64.wrap ((a0 : Int) + 1) = (a1 : Nat) by have := A0.out; have := A1.out; have := HK16.out; rw [IntWalk.i64_in _ (by omega)]; omega)
      have HCL := Lib.hid (fun (W : World) (h : SumsB W S (bldT n g m pk)) => (⟨h.tag (by rw [BLK.out]; have := A0.out; have := HK16.out; omega), h.tag (by rw [BLK.out]; have := A1.out; have := HK16.out; omega)⟩ : W.rangeAt S (32 * a0) (sumC (tagAt (bldT n g m pk) a0)) ∧ W.rangeAt S (32 * a1) (sumC (tagAt (bldT n g m pk) a1))))
      have HT0 := Lib.hid (show tagAt (bldT n g m j) a0 = tagAt (bldT n g m pk) a0 by have := A0.out; have := HK16.out; have := HPK.out; rw [bldT_at (by omega) (by omega), bldT_at (by omega) (by omega)])
      have HT1 := Lib.hid (show tagAt (bldT n g m j) a1 = tagAt (bldT n g m pk) a1 by have := A1.out; have := HK16.out; have := HPK.out; rw [bldT_at (by omega) (by omega), bldT_at (by omega) (by omega)])
      have BLJ := Lib.hid (bldT_len n g m j)
      have HW := Lib.hid (show wrap64 ((pk : Int) - 1) = (j : Nat) by have := HPK.out; have := HK16.out; rw [IntWalk.wrap64_in _ (by omega)]; omega)
      have HJP := Lib.hid (show j < pk by have := HPK.out; omega)
      go_wp2
      refine wp_region_sched [(0, true), (1, true), (2, true), (3, true), (4, true), (5, true), (6, true), (7, true), (8, true), (9, true), (10, true), (11, true), (12, true), (13, true), (14, true), (15, false), (16, true), (17, false)] (fun W => W.rangeAt S (32 * a0) (sumC (tagAt (bldT n g m pk) a0)) ∧ W.rangeAt S (32 * a1) (sumC (tagAt (bldT n g m pk) a1))) (by kernel_rfl) (by kernel_rfl) (HCL.out _ (DD.out.keep rfl)) ?_
      refine walk_float rfl rfl (fun K' hK => ?_)
      refine gives_move _ rfl ?_
      go_simp
      refine hK _ ?_
      clear hK K'
      refine walk_float rfl rfl (fun K' hK => ?_)
      refine gives_move _ rfl ?_
      go_simp
      refine hK _ ?_
      clear hK K'
      refine walk_float rfl rfl (fun K' hK => ?_)
      refine gives_move _ rfl ?_
      go_simp
      refine hK _ ?_
      clear hK K'
      refine walk_float rfl rfl (fun K' hK => ?_)
      refine gives_move _ rfl ?_
      go_simp
      refine hK _ ?_
      clear hK K'
      refine walk_float rfl rfl (fun K' hK => ?_)
      refine gives_move _ rfl ?_
      go_simp
      refine hK _ ?_
      clear hK K'
      refine walk_float rfl rfl (fun K' hK => ?_)
      refine gives_move _ rfl ?_
      go_simp
      refine hK _ ?_
      clear hK K'
      refine walk_float rfl rfl (fun K' hK => ?_)
      refine gives_int_mul _ _ rfl 2 pk a0 rfl rfl M0.out ?_
      go_simp
      refine hK _ ?_
      clear hK K'
      refine walk_float rfl rfl (fun K' hK => ?_)
      refine gives_sum_elem _ _ rfl S 0 32 32 a0 rfl rfl (by have := A0.out; have := HK16.out; omega) ?_
      go_simp
      refine hK _ ?_
      clear hK K'
      refine walk_float rfl rfl (fun K' hK => ?_)
      refine gives_sum_mid _ rfl S (32 * a0) rfl (tagAt (bldT n g m pk) a0) (fun W h => h.1) ?_
      go_simp
      refine hK _ ?_
      clear hK K'
      refine walk_float rfl rfl (fun K' hK => ?_)
      refine gives_move _ rfl ?_
      go_simp
      refine hK _ ?_
      clear hK K'
      refine walk_float rfl rfl (fun K' hK => ?_)
      refine gives_move _ rfl ?_
      go_simp
      refine hK _ ?_
      clear hK K'
      refine walk_float rfl rfl (fun K' hK => ?_)
      refine gives_int_mul _ _ rfl 2 pk a0 rfl rfl M0.out ?_
      go_simp
      refine hK _ ?_
      clear hK K'
      refine walk_float rfl rfl (fun K' hK => ?_)
      refine gives_int_sum _ _ rfl a0 1 a1 rfl rfl M1.out ?_
      go_simp
      refine hK _ ?_
      clear hK K'
      refine walk_float rfl rfl (fun K' hK => ?_)
      refine gives_sum_elem _ _ rfl S 0 32 32 a1 rfl rfl (by have := A1.out; have := HK16.out; omega) ?_
      go_simp
      refine hK _ ?_
      clear hK K'
      refine walk_float rfl rfl (fun K' hK => ?_)
      refine gives_sum_mid _ rfl S (32 * a1) rfl (tagAt (bldT n g m pk) a1) (fun W h => h.2) ?_
      go_simp
      refine hK _ ?_
      clear hK K'
      have hd : Below wr.heap.size wr wr.drew := (Below.refl _ wr).drew
      have bd : Below S w wr.drew := BB.out.drew
      have dd : SumsB wr.drew S (bldT n g m pk) := DD.out.keep rfl
      refine walk_done rfl rfl (fun K' hK => ?_)
      refine done_four _ _ _ _ _ _ rfl 28 rfl (.slice kp n kc) (.int .i64 pk) (sumVal (tagAt (bldT n g m pk) a0)) (sumVal (tagAt (bldT n g m pk) a1)) rfl rfl rfl rfl (fun _ w => by simp [go_sem]) ((NDK.out a0 a1 (by have := A0.out; have := HK16.out; omega) (by have := A1.out; have := HK16.out; omega) (by have := A0.out; have := HP1.out; omega) (by have := A1.out; omega) wr.drew bd).mono ?_)
      rintro e w3 ⟨rfl, hb3⟩
      have d3 : SumsB w3 S (bldT n g m pk) := dd.below hb3
      have b3 : Below S w w3 := bd.trans (hb3.mono (by have := dd.lt; omega))
      clear hb3 dd bd hd
      refine ⟨_, rfl, HCL.out _ d3, ?_⟩
      go_simp
      refine hK _ _ ?_
      clear hK K'
      refine walk_float rfl rfl (fun K' hK => ?_)
      refine gives_sum_elem _ _ rfl S 0 32 32 pk rfl rfl (by have := HK16.out; omega) ?_
      go_simp
      refine hK _ ?_
      clear hK K'
      refine walk_done rfl rfl (fun K' hK => ?_)
      refine done_sum_store _ _ rfl S pk rfl _ rfl _ d3 (by rw [BLK.out]; have := HK16.out; omega) ?_
      intro w4 h4 hb4 hs4
      rw [NDN.out, BNK.out] at h4
      have D4 := Lib.hid h4
      have B4 := Lib.hid (b3.trans (hb4.below (M := S) (Nat.le_refl _) (by have := d3.lt; omega)))
      refine ⟨by have c0 := D4.out.tag (k := a0) (by rw [BLJ.out]; have := A0.out; have := HK16.out; omega); have c1 := D4.out.tag (k := a1) (by rw [BLJ.out]; have := A1.out; have := HK16.out; omega); rw [HT0.out] at c0; rw [HT1.out] at c1; exact ⟨c0, c1⟩, ?_⟩
      go_simp
      refine hK _ _ ?_
      clear hK K'
      clear b3
      refine walk_nil ?_
      go_wp2
      go_roundw
      case rel => exact ⟨j, by have := HK16.out; have := HPK.out; omega, by rw [HW.out], D4.out, B4.out⟩
      case measure => rw [HW.out]; exact HJP.out
end Go.Proofs.YtbdldnhpgpjnoaaDoor

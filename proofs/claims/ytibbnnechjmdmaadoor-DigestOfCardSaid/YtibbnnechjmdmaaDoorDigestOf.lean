/- Package digest's Of answers what the document's does, of any text, and leaves what it was handed as it was: the statement DigestOf, tied to the program's text. No condition. -/
import Derived.Test.YtibbnnechjmdmaaDoorDigLaw
import Derived.Test.YtibbnnechjmdmaaDoorDoor
namespace Go.Proofs.YtibbnnechjmdmaaDoor.digestOf
open Go.ChangeShapes Go.WideShapes Go.ChangeAt Go.RowKit
set_option linter.unusedVariables false
attribute [local irreducible] digF markF

theorem own : ownKnob Tryd.prog.godebug = none := by kernel_rfl

set_option maxRecDepth 100000 in
set_option maxHeartbeats 2000000 in
theorem walk (p : Option Addr) (n cap : Nat) (g : Nat → Nat) (hg : ∀ i, i < n → g i < 256) (hcap : n ≤ cap) (hmax : cap ≤ maxLen) (w : World) (hT : TabAt w) (hp : BytesAt w p n g) :
    Calls Tryd.prog 5 #[.slice p n cap] w fun e w' => e = .returned (.bool true) ∧ Below w.heap.size w w' := by
  by_cases hn : n ≤ 8192
  · have e1 : ¬ 8192 < (n : Int) := by omega
    have e2 : ¬ 8192 < n := by omega
    have HP := Lib.hid hp
    have HT := Lib.hid hT
    clear hp hT
    go_enter Tryd.func5, Tryd.ntmps5
    go_wp2_with (first
      | (go_at_call 16; refine (Copy_any p n cap g (by omega) _ HP.out).mono ?_; rintro e w1 ⟨D, m, rfl, rfl, hd, hb1⟩
         have A1 : Below w1.heap.size w1 (w1.alloc (.cells #[.slice (some ⟨D, 0, none⟩) n (n + 2)] 34)) := (Below.refl _ w1).alloc (Nat.le_refl _) _
         have A2 := Lib.hid (hd.below A1)
         have A3 := Lib.hid ((hb1.trans (A1.mono hb1.size)))
         have A4 := Lib.hid (HP.out.below (hb1.trans (A1.mono hb1.size)))
         have A5 := Lib.hid (cell_of_one (heap_alloc_new w1 (.cells #[.slice (some ⟨D, 0, none⟩) n (n + 2)] 34)))
         clear hd hb1 A1 HP)
      | (go_at_call 17; refine (Of_one w1.heap.size 1 (some ⟨D, 0, none⟩) n (n + 2) g (by omega) (by omega) hg _ (HT.out.on A3.out) A5.out (A2.out.low rfl)).mono ?_; rintro e w2 ⟨rfl, hb2⟩
         have B2 := Lib.hid (A2.out.below hb2)
         have B3 := Lib.hid (A3.out.trans (hb2.mono A3.out.size))
         have B4 := Lib.hid (A4.out.below hb2)
         clear hb2 A2 A3 A4 A5)
      | (refine store_row_on rfl 37 _ _ rfl rfl w2.heap.size (cellsOf .u8 (mk 32 (digF n g))) rfl rfl 37 (cellsOf .u8 (mk 32 zeroK)) (IntBlk.new w2 .u8 _ (mk 32 zeroK)) (sumSize _) (by rw [cellsOf_size, cellsOf_size, mk_len, mk_len]) (cellsOf_one _ _) ?_))
    have E0 : Below w2.heap.size w2 ((w2.alloc (.cells (cellsOf .u8 (mk 32 zeroK)) 37)).setRow w2.heap.size (cellsOf .u8 (mk 32 (digF n g)))) := below_setRow ((Below.refl _ w2).alloc (Nat.le_refl _) _) (Nat.le_refl _) _
    have E1 : IntBlk ((w2.alloc (.cells (cellsOf .u8 (mk 32 zeroK)) 37)).setRow w2.heap.size (cellsOf .u8 (mk 32 (digF n g)))) w2.heap.size .u8 37 (mk 32 (digF n g)) := (IntBlk.new w2 .u8 _ (mk 32 zeroK)).setRow .u8 _
    have E2 := B2.out.below E0
    have E3 := B3.out.trans (E0.mono B3.out.size)
    have E4 := B4.out.below E0
    change Code.wp _ _ _ _ ((w2.alloc (.cells (cellsOf .u8 (mk 32 zeroK)) 37)).setRow w2.heap.size (cellsOf .u8 (mk 32 (digF n g))))
    generalize ((w2.alloc (.cells (cellsOf .u8 (mk 32 zeroK)) 37)).setRow w2.heap.size (cellsOf .u8 (mk 32 (digF n g)))) = V at *
    have T1 := HT.out.on E3
    have K1 := Lib.hid (fun W (h : Below V.heap.size V W) => E1.below h E1.lt)
    have K2 := Lib.hid (fun W (h : Below V.heap.size V W) => (Of_none W (T1.on h)).mono fun e w' (hr : _ ∧ Below W.heap.size W w') => And.intro hr.1 (h.trans (hr.2.mono h.size)))
    have K3 := Lib.hid (fun W (h : Below V.heap.size V W) => (refOf_any p n cap g (by omega) hg W (E4.below h)).mono fun e w' (hr : _ ∧ Below W.heap.size W w') => And.intro hr.1 (h.trans (hr.2.mono h.size)))
    have K4 := Lib.hid (fun W (h : Below V.heap.size V W) => (Kept_any p n cap (n + 2) D g (by omega) rfl W (E4.below h) (E2.below h)).mono fun e w' (hr : _ ∧ W = w') => And.intro hr.1 (hr.2 ▸ h))
    have HE3 := Lib.hid E3
    clear E0 E1 E2 E3 E4 T1 B2 B3 B4 HT
    go_wp2
    refine wp_region_class (fun w' => Below V.heap.size V w') (by kernel_rfl) (by kernel_rfl) ((Below.refl _ _).drew) ?_
    iterate 15 (first
      | go_big_quiet_skip
      | (go_big_quiet_want
         first
           | (go_big_quiet_op; go_big_quiet_on)
           | ((first
               | (refine quiet_pick _ _ _ rfl rfl rfl ?_)
               | (refine quiet_load_row 37 _ rfl w2.heap.size .u8 (mk 32 (digF n g)) rfl 32 5 sumUnder (sumSize _) K1.out ?_)
               | (refine quiet_sum_index _ _ rfl (digF 0 zeroK) 0 rfl 0 rfl rfl (by omega) 227 dig_none.1 ?_)
               | (refine quiet_u8_eql _ _ rfl 227 227 true rfl rfl rfl ?_)
               | (refine quiet_sum_eql _ _ rfl (digF n g) (digF n g) rfl rfl (by simp) ?_)
               | (refine quiet_call1 _ _ _ rfl 17 rfl (.slice none 0 0) (.agg (cellsOf .u8 (mk 32 (digF 0 zeroK)))) rfl (fun _ w => by simp [go_sem]) K2.out ?_)
               | (refine quiet_call1 _ _ _ rfl 18 rfl (.slice p n cap) (.agg (cellsOf .u8 (mk 32 (digF n g)))) rfl (fun _ w => by simp [go_sem]) K3.out ?_)
               | (refine quiet_call2 _ _ _ _ rfl 19 rfl (.slice (some ⟨D, 0, none⟩) n (n + 2)) (.slice p n cap) (.bool true) rfl rfl (fun _ w => by simp [go_sem]) K4.out ?_)); go_simp; go_big_quiet_on)))
    refine wpQuiet_nil ?_
    intro wx hwx
    go_wp2
    go_ret
    exact ⟨rfl, HE3.out.trans (hwx.mono HE3.out.size)⟩
  · have e1 : 8192 < (n : Int) := by omega
    have e2 : 8192 < n := by omega
    clear hn hp hT
    go_enter Tryd.func5, Tryd.ntmps5
    go_wp2
    go_ret
    exact ⟨rfl, Below.refl _ _⟩

theorem laidOut : laidOutB Tryd.prog = true := by kernel_rfl
set_option maxRecDepth 100000 in
theorem lifted (os : Os) (started : os.Started) (H : Type) (enc : TypeId × Value → H) :
    ReturnsInHanded {} Tryd.checked os 5 .any (fun w args => (Rows.digestOfSpec.pre enc Tryd.prog Tryd.f5 Rows.digestOfRow.domain false w args ∧ laidMetH Tryd.prog Rows.digestOfRow.laid w) ∧ sizedMet enc Tryd.prog Tryd.f5 (OpenSpec.ofChange Rows.digestOfSpec) false w args) (Rows.digestOfSpec.post enc Tryd.prog Tryd.f5 false true false false) := by
  refine returnsInHanded_of_change_and (C := Tryd.checked) (X := fun w _ => laidMetH Tryd.prog Rows.digestOfRow.laid w) (fun _ _ _ hh h => h.of_heap hh) own started (by kernel_rfl) Tryd.func5
    (ChangeSpec.witness_shaped (enc := enc) (C := Tryd.checked) (os := os) (X := fun w _ => laidMetH Tryd.prog Rows.digestOfRow.laid w) false (World.laidAll Tryd.prog os Rows.digestOfRow.laid) #[.slice none 0 0] 8 (World.laidAll_os _ _ _)
      (World.shaped_of_ZipB (by kernel_rfl) (by kernel_rfl)) (by kernel_rfl) (by kernel_rfl) (by kernel_rfl)
      (by rw [MakeChecks.laidMetH_plain _ _ _ (by kernel_rfl)]; exact laidMet_laidAll _ (by kernel_rfl) (by kernel_rfl))) ?_
  intro W base args ds gs before hval0 hW hcnd _ hL _
  have hT := tab_of_laid hL
  have hval : ∀ (j : Nat) t v, Tryd.f5.params[j]? = some t → args[j]? = some v → Value.okWide Tryd.prog W .any base t v := hval0
  have hW' := hW
  obtain ⟨p, q, hA0, hV, rfl, hfz, hnd⟩ := hW
  have hA : DataW.TrodAll enc Tryd.prog W 0 (fun _ => true) true Tryd.f5.params.toList args.toList ds p := hA0
  rw [Tryd.params5] at hA hval
  obtain ⟨v0, vs0, d0, ds0, p0, q0, hargs, rfl, rfl, h0, r0⟩ := trodAll_cons hA
  obtain ⟨rfl, rfl, rfl⟩ := trodAll_nil r0
  obtain rfl : args = #[v0] := by cases args; simp_all
  obtain ⟨rfl, rfl⟩ := trodVars_none hV
  have k0 := h0
  have lt0 : ∀ x ∈ p0, x.block < W.heap.size := by obtain ⟨m, hm⟩ := k0; exact DataW.trod_lt m _ _ _ hm
  obtain ⟨q0, n0, c0, a0, rfl, w0, y0, l0, m0⟩ := open_byteslice (hval 0 34 v0 rfl rfl) h0
  clear hA0 hval0
  refine (walk q0 n0 c0 a0 w0 l0 m0 W hT y0).mono fun e W' ⟨he, bel⟩ => ?_
  subst he
  exact ⟨_, rfl, _, _, _, [], _, [], hW', trodAll_mk1 (shut_bool Tryd.underlying4 _), (trodAll_cons_mk (Below.trod laidOut (by kernel_rfl) (of_decide_eq_true (by kernel_rfl)) k0 bel lt0) trodAll_mk0), rfl, bel.frame _, fun h => by cases h⟩

theorem over : Rows.digestOfRow.holds Tryd.pinned (OpenSpec.ofChange Rows.digestOfSpec) :=
  OpenClaim.holds_of_wide 5 Tryd.f5 rfl rfl rfl rfl rfl rfl rfl ⟨rfl, rfl, rfl, rfl, rfl⟩ rfl rfl rfl rfl rfl (by kernel_rfl) Tryd.func5 (by kernel_rfl)
    (of_decide_eq_true (by kernel_rfl)) (by unfold Func.isWrapper; first | (rw [if_pos (by decide +kernel)]; kernel_rfl) | (rw [if_neg (by decide +kernel)]; exact ⟨rfl, rfl⟩))
    (fun os started H enc _ => lifted os started H enc)

set_option maxRecDepth 100000 in
theorem proved : Rows.DigestOfCardSaid :=
  Claim7.holds_tied_plain_at .later [] [.data] true (true, "f7205cfd815a6bad1c86f1bccfe71f72fe6628e239341f6fbb660aec02113458") false
    over (fun _ h => by cases h) (by kernel_rfl) (fun _ h => by cases h) digestOf_row_tie rfl ⟨rfl, rfl⟩ (by kernel_rfl) rfl
    (fun f fn hf hfn => by
      obtain rfl : f = 5 := Option.some.inj ((show Tryd.prog.funcNamed "citadel/citadellaw04.DigestOf" = some 5 by kernel_rfl).symm.trans hf) |>.symm
      obtain rfl : fn = Tryd.f5 := (Option.some.inj (Tryd.func5.symm.trans hfn)).symm
      exact ⟨by kernel_rfl, fun j t ht => by
        rw [Tryd.params5] at ht
        rcases j with _ | j
        · obtain rfl : t = 34 := by simpa using ht.symm
          exact (show Tryd.prog.wantsStandIn 34 = false by kernel_rfl)
        · simp at ht⟩)
    (by kernel_rfl)
end Go.Proofs.YtibbnnechjmdmaaDoor.digestOf

/- Package digest's Take answers what the document's does, with any eight words and any schedule, and turns the beginning into other words: the statement DigestTake, tied to the program's text. No condition. -/
import Derived.Test.YtibbnnechjmdmaaDoorTakeC
import Derived.Test.YtibbnnechjmdmaaDoorRefTake
import Derived.Test.YtibbnnechjmdmaaDoorTableC
import Derived.Test.YtibbnnechjmdmaaDoorOfC
import Derived.Test.YtibbnnechjmdmaaDoorEmpty
import Derived.Test.YtibbnnechjmdmaaDoorQuietE
import Derived.Test.YtibbnnechjmdmaaDoorDoor
namespace Go.Proofs.YtibbnnechjmdmaaDoor.digestTake
open Go.ChangeShapes Go.WideShapes Go.ChangeAt Go.RowKit
set_option linter.unusedVariables false
attribute [local irreducible] takH tabK begK

theorem own : ownKnob Tryd.prog.godebug = none := by kernel_rfl

set_option maxRecDepth 100000 in
set_option maxHeartbeats 2000000 in
theorem walk (hh ww : Nat → Nat) (hb : ∀ i, i < 8 → hh i < 4294967296) (hw : ∀ i, i < 64 → ww i < 4294967296) (w : World) (hT : TabAt w) :
    Calls Tryd.prog 3 #[.agg (cellsOf .u32 (mk 8 hh)), .agg (cellsOf .u32 (mk 64 ww))] w fun e w' => e = .returned (.bool true) ∧ Below w.heap.size w w' := by
  have B1 := Lib.hid ((IntBlk.new w .u32 23 (mk 8 hh)).alloc (.cells (cellsOf .u32 (mk 64 ww)) 24))
  have B2 := Lib.hid (blk_two w .u32 24 (mk 64 ww) (.cells (cellsOf .u32 (mk 8 hh)) 23))
  have BL := Lib.hid (below_two w (.cells (cellsOf .u32 (mk 8 hh)) 23) (.cells (cellsOf .u32 (mk 64 ww)) 24))
  have HT := Lib.hid hT
  clear hT
  go_enter Tryd.func3, Tryd.ntmps3
  go_wp2_with (first
    | (go_at_call 9; refine (Table_any _).mono ?_; rintro e w1 ⟨rfl, hb1⟩
       have C1 := B1.out.below hb1 B1.out.lt
       have C2 := B2.out.below hb1 B2.out.lt
       have CL := BL.out.trans (hb1.mono BL.out.size)
       have hs1 := hb1.size
       rw [World.size_alloc, World.size_alloc] at hs1
       have D1 := Lib.hid C1; have D2 := Lib.hid C2; have DL := Lib.hid CL
       clear hb1 C1 C2 CL B1 B2 BL)
    | (refine store_row_on rfl 24 _ _ rfl rfl w1.heap.size (cellsOf .u32 (mk 64 tabK)) rfl rfl 24 (cellsOf .u32 (mk 64 zeroK)) ((IntBlk.new w1 .u32 24 (mk 64 zeroK)).alloc (.cells (cellsOf .u32 (mk 8 zeroK)) 23)) (schedSize _) (by rw [cellsOf_size, cellsOf_size, mk_len, mk_len]) (cellsOf_one _ _) ?_)
    | (refine store_row_on rfl 23 _ _ rfl rfl (w1.heap.size + 1) (cellsOf .u32 (mk 8 begK)) rfl rfl 23 (cellsOf .u32 (mk 8 zeroK)) ((blk_two w1 .u32 23 (mk 8 zeroK) (.cells (cellsOf .u32 (mk 64 zeroK)) 24)).otherRow (by omega) _) (eightSize _) (by rw [cellsOf_size, cellsOf_size, mk_len, mk_len]) (cellsOf_one _ _) ?_))
  have E1 : IntBlk ((((w1.alloc (.cells (cellsOf .u32 (mk 64 zeroK)) 24)).alloc (.cells (cellsOf .u32 (mk 8 zeroK)) 23)).setRow w1.heap.size (cellsOf .u32 (mk 64 tabK))).setRow (w1.heap.size + 1) (cellsOf .u32 (mk 8 begK))) w.heap.size .u32 23 (mk 8 hh) := (((D1.out.alloc _).alloc _).otherRow (by omega) _).otherRow (by omega) _
  have E2 : IntBlk ((((w1.alloc (.cells (cellsOf .u32 (mk 64 zeroK)) 24)).alloc (.cells (cellsOf .u32 (mk 8 zeroK)) 23)).setRow w1.heap.size (cellsOf .u32 (mk 64 tabK))).setRow (w1.heap.size + 1) (cellsOf .u32 (mk 8 begK))) (w.heap.size + 1) .u32 24 (mk 64 ww) := (((D2.out.alloc _).alloc _).otherRow (by omega) _).otherRow (by omega) _
  have E3 : IntBlk ((((w1.alloc (.cells (cellsOf .u32 (mk 64 zeroK)) 24)).alloc (.cells (cellsOf .u32 (mk 8 zeroK)) 23)).setRow w1.heap.size (cellsOf .u32 (mk 64 tabK))).setRow (w1.heap.size + 1) (cellsOf .u32 (mk 8 begK))) w1.heap.size .u32 24 (mk 64 tabK) := (((IntBlk.new w1 .u32 24 (mk 64 zeroK)).alloc _).setRow .u32 _).otherRow (by omega) _
  have E4 : Below w.heap.size w ((((w1.alloc (.cells (cellsOf .u32 (mk 64 zeroK)) 24)).alloc (.cells (cellsOf .u32 (mk 8 zeroK)) 23)).setRow w1.heap.size (cellsOf .u32 (mk 64 tabK))).setRow (w1.heap.size + 1) (cellsOf .u32 (mk 8 begK))) := below_setRow (below_setRow ((DL.out.alloc (by omega) _).alloc (by simp; omega) _) (by omega) _) (by omega) _
  have hq : ∀ (a : Act) (c : Code) (Q : Exit → Act → World → Prop), c.wp Tryd.prog Q a ((((w1.alloc (.cells (cellsOf .u32 (mk 64 zeroK)) 24)).alloc (.cells (cellsOf .u32 (mk 8 zeroK)) 23)).setRow w1.heap.size (cellsOf .u32 (mk 64 tabK))).setRow (w1.heap.size + 1) (cellsOf .u32 (mk 8 begK))) → c.wp Tryd.prog Q a ((((w1.alloc (.cells (cellsOf .u32 (mk 64 zeroK)) 24)).alloc (.cells (cellsOf .u32 (mk 8 zeroK)) 23)).setRow w1.heap.size (cellsOf .u32 (mk 64 tabK))).setRow (w1.heap.size + 1) (cellsOf .u32 (mk 8 begK))) := fun _ _ _ h => h
  refine hq _ _ _ ?_
  clear hq
  generalize ((((w1.alloc (.cells (cellsOf .u32 (mk 64 zeroK)) 24)).alloc (.cells (cellsOf .u32 (mk 8 zeroK)) 23)).setRow w1.heap.size (cellsOf .u32 (mk 64 tabK))).setRow (w1.heap.size + 1) (cellsOf .u32 (mk 8 begK))) = V at *
  have T1 := HT.out.on E4
  have K1 := Lib.hid (fun W (h : Below V.heap.size V W) => E1.below h E1.lt)
  have K2 := Lib.hid (fun W (h : Below V.heap.size V W) => E2.below h E2.lt)
  have K3 := Lib.hid (fun W (h : Below V.heap.size V W) => E3.below h E3.lt)
  have K4 := Lib.hid (fun W (h : Below V.heap.size V W) => (Take_any hh ww hb W (T1.on h)).mono fun e w' (hr : _ ∧ Below W.heap.size W w') => And.intro hr.1 (h.trans (hr.2.mono h.size)))
  have K5 := Lib.hid (class_of (W0 := V) (fun W => refTake_any hh ww tabK hb W))
  have K6 := Lib.hid (class_of (W0 := V) (fun W => Begin_any W))
  have K7 := Lib.hid (fun W (h : Below V.heap.size V W) => (Take_any begK zeroK (fun j _ => begK_lt j) W (T1.on h)).mono fun e w' (hr : _ ∧ Below W.heap.size W w') => And.intro hr.1 (h.trans (hr.2.mono h.size)))
  have HE4 := Lib.hid E4
  clear E1 E2 E3 E4 T1 D1 D2 DL HT
  go_wp2
  refine wp_region_class (fun w' => Below V.heap.size V w') (by kernel_rfl) (by kernel_rfl) ((Below.refl _ _).drew) ?_
  iterate 16 (first
    | go_big_quiet_skip
    | (go_big_quiet_want
       first
         | (go_big_quiet_op; go_big_quiet_on)
         | ((first
             | (refine quiet_pick _ _ _ rfl rfl rfl ?_)
             | (refine quiet_load_row 23 _ rfl w.heap.size .u32 (mk 8 hh) rfl 8 22 eightUnder (eightSize _) K1.out ?_)
             | (refine quiet_load_row 24 _ rfl (w.heap.size + 1) .u32 (mk 64 ww) rfl 64 22 schedUnder (schedSize _) K2.out ?_)
             | (refine quiet_load_row 24 _ rfl w1.heap.size .u32 (mk 64 tabK) rfl 64 22 schedUnder (schedSize _) K3.out ?_)
             | (refine quiet_eight_eql _ _ rfl (takH hh ww tabK) (takH hh ww tabK) rfl rfl (by simp) ?_)
             | (refine quiet_eight_neq _ _ rfl (takH begK zeroK tabK) begK rfl rfl take_zero ?_)
             | (refine quiet_sched_zero rfl ?_)
             | (refine quiet_call0 _ _ rfl 12 rfl (.agg (cellsOf .u32 (mk 8 begK))) (fun _ w => by simp [go_sem]) K6.out ?_)
             | (refine quiet_call2 _ _ _ _ rfl 10 rfl (.agg (cellsOf .u32 (mk 8 hh))) (.agg (cellsOf .u32 (mk 64 ww))) (.agg (cellsOf .u32 (mk 8 (takH hh ww tabK)))) rfl rfl (fun _ w => by simp [go_sem]) K4.out ?_)
             | (refine quiet_call2 _ _ _ _ rfl 10 rfl (.agg (cellsOf .u32 (mk 8 begK))) (.agg (cellsOf .u32 (mk 64 zeroK))) (.agg (cellsOf .u32 (mk 8 (takH begK zeroK tabK)))) rfl rfl (fun _ w => by simp [go_sem]) K7.out ?_)
             | (refine quiet_call3 _ _ _ _ _ rfl 11 rfl (.agg (cellsOf .u32 (mk 8 hh))) (.agg (cellsOf .u32 (mk 64 ww))) (.agg (cellsOf .u32 (mk 64 tabK))) (.agg (cellsOf .u32 (mk 8 (takH hh ww tabK)))) rfl rfl rfl (fun _ w => by simp [go_sem]) K5.out ?_)); go_simp; go_big_quiet_on)))
  refine wpQuiet_nil ?_
  intro wx hwx
  go_wp2
  go_ret
  exact ⟨rfl, HE4.out.trans (hwx.mono HE4.out.size)⟩

theorem laidOut : laidOutB Tryd.prog = true := by kernel_rfl
set_option maxRecDepth 100000 in
theorem lifted (os : Os) (started : os.Started) (H : Type) (enc : TypeId × Value → H) :
    ReturnsInHanded {} Tryd.checked os 3 .any (fun w args => (Rows.digestTakeSpec.pre enc Tryd.prog Tryd.f3 Rows.digestTakeRow.domain false w args ∧ laidMetH Tryd.prog Rows.digestTakeRow.laid w) ∧ sizedMet enc Tryd.prog Tryd.f3 (OpenSpec.ofChange Rows.digestTakeSpec) false w args) (Rows.digestTakeSpec.post enc Tryd.prog Tryd.f3 false true false false) := by
  refine returnsInHanded_of_change_and (C := Tryd.checked) (X := fun w _ => laidMetH Tryd.prog Rows.digestTakeRow.laid w) (fun _ _ _ hh h => h.of_heap hh) own started (by kernel_rfl) Tryd.func3
    (ChangeSpec.witness_shaped (enc := enc) (C := Tryd.checked) (os := os) (X := fun w _ => laidMetH Tryd.prog Rows.digestTakeRow.laid w) false (World.laidAll Tryd.prog os Rows.digestTakeRow.laid) #[.agg #[.int .u32 0, .int .u32 0, .int .u32 0, .int .u32 0, .int .u32 0, .int .u32 0, .int .u32 0, .int .u32 0], .agg #[.int .u32 0, .int .u32 0, .int .u32 0, .int .u32 0, .int .u32 0, .int .u32 0, .int .u32 0, .int .u32 0, .int .u32 0, .int .u32 0, .int .u32 0, .int .u32 0, .int .u32 0, .int .u32 0, .int .u32 0, .int .u32 0, .int .u32 0, .int .u32 0, .int .u32 0, .int .u32 0, .int .u32 0, .int .u32 0, .int .u32 0, .int .u32 0, .int .u32 0, .int .u32 0, .int .u32 0, .int .u32 0, .int .u32 0, .int .u32 0, .int .u32 0, .int .u32 0, .int .u32 0, .int .u32 0, .int .u32 0, .int .u32 0, .int .u32 0, .int .u32 0, .int .u32 0, .int .u32 0, .int .u32 0, .int .u32 0, .int .u32 0, .int .u32 0, .int .u32 0, .int .u32 0, .int .u32 0, .int .u32 0, .int .u32 0, .int .u32 0, .int .u32 0, .int .u32 0, .int .u32 0, .int .u32 0, .int .u32 0, .int .u32 0, .int .u32 0, .int .u32 0, .int .u32 0, .int .u32 0, .int .u32 0, .int .u32 0, .int .u32 0, .int .u32 0]] 8 (World.laidAll_os _ _ _)
      (World.shaped_of_ZipB (by kernel_rfl) (by kernel_rfl)) (by kernel_rfl) (by kernel_rfl) (by kernel_rfl)
      (by rw [MakeChecks.laidMetH_plain _ _ _ (by kernel_rfl)]; exact laidMet_laidAll _ (by kernel_rfl) (by kernel_rfl))) ?_
  intro W base args ds gs before hval0 hW hcnd _ hL _
  have hT := tab_of_laid hL
  have hval : ∀ (j : Nat) t v, Tryd.f3.params[j]? = some t → args[j]? = some v → Value.okWide Tryd.prog W .any base t v := hval0
  have hW' := hW
  obtain ⟨p, q, hA0, hV, rfl, hfz, hnd⟩ := hW
  have hA : DataW.TrodAll enc Tryd.prog W 0 (fun _ => true) true Tryd.f3.params.toList args.toList ds p := hA0
  rw [Tryd.params3] at hA hval
  obtain ⟨v0, vs0, d0, ds0, p0, q0, hargs, rfl, rfl, h0, r0⟩ := trodAll_cons hA
  obtain ⟨v1, vs1, d1, ds1, p1, q1, rfl, rfl, rfl, h1, r1⟩ := trodAll_cons r0
  obtain ⟨rfl, rfl, rfl⟩ := trodAll_nil r1
  obtain rfl : args = #[v0, v1] := by cases args; simp_all
  obtain ⟨rfl, rfl⟩ := trodVars_none hV
  have k0 := h0
  have lt0 : ∀ x ∈ p0, x.block < W.heap.size := by obtain ⟨m, hm⟩ := k0; exact DataW.trod_lt m _ _ _ hm
  obtain ⟨a0, w0, rfl⟩ := open_words eightUnder Tryd.underlying22 (by kernel_rfl) (by kernel_rfl) (hval 0 23 v0 rfl rfl) h0
  have k1 := h1
  have lt1 : ∀ x ∈ p1, x.block < W.heap.size := by obtain ⟨m, hm⟩ := k1; exact DataW.trod_lt m _ _ _ hm
  obtain ⟨a1, w1, rfl⟩ := open_words schedUnder Tryd.underlying22 (by kernel_rfl) (by kernel_rfl) (hval 1 24 v1 rfl rfl) h1
  clear hA0 hval0
  refine (walk a0 a1 w0 w1 W hT).mono fun e W' ⟨he, bel⟩ => ?_
  subst he
  exact ⟨_, rfl, _, _, _, [], _, [], hW', trodAll_mk1 (shut_bool Tryd.underlying4 _), (trodAll_cons_mk (Below.trod laidOut (by kernel_rfl) (of_decide_eq_true (by kernel_rfl)) k0 bel lt0) (trodAll_cons_mk (Below.trod laidOut (by kernel_rfl) (of_decide_eq_true (by kernel_rfl)) k1 bel lt1) trodAll_mk0)), rfl, bel.frame _, fun h => by cases h⟩

theorem over : Rows.digestTakeRow.holds Tryd.pinned (OpenSpec.ofChange Rows.digestTakeSpec) :=
  OpenClaim.holds_of_wide 3 Tryd.f3 rfl rfl rfl rfl rfl rfl rfl ⟨rfl, rfl, rfl, rfl, rfl⟩ rfl rfl rfl rfl rfl (by kernel_rfl) Tryd.func3 (by kernel_rfl)
    (of_decide_eq_true (by kernel_rfl)) (by unfold Func.isWrapper; first | (rw [if_pos (by decide +kernel)]; kernel_rfl) | (rw [if_neg (by decide +kernel)]; exact ⟨rfl, rfl⟩))
    (fun os started H enc _ => lifted os started H enc)

set_option maxRecDepth 100000 in
theorem proved : Rows.DigestTakeCardSaid :=
  Claim7.holds_tied_plain_at .later [] [.data] true (true, "f7205cfd815a6bad1c86f1bccfe71f72fe6628e239341f6fbb660aec02113458") false
    over (fun _ h => by cases h) (by kernel_rfl) (fun _ h => by cases h) digestTake_row_tie rfl ⟨rfl, rfl⟩ (by kernel_rfl) rfl
    (fun f fn hf hfn => by
      obtain rfl : f = 3 := Option.some.inj ((show Tryd.prog.funcNamed "citadel/citadellaw04.DigestTake" = some 3 by kernel_rfl).symm.trans hf) |>.symm
      obtain rfl : fn = Tryd.f3 := (Option.some.inj (Tryd.func3.symm.trans hfn)).symm
      exact ⟨by kernel_rfl, fun j t ht => by
        rw [Tryd.params3] at ht
        rcases j with _ | _ | j
        · obtain rfl : t = 23 := by simpa using ht.symm
          exact (show Tryd.prog.wantsStandIn 23 = false by kernel_rfl)
        · obtain rfl : t = 24 := by simpa using ht.symm
          exact (show Tryd.prog.wantsStandIn 24 = false by kernel_rfl)
        · simp at ht⟩)
    (by kernel_rfl)
end Go.Proofs.YtibbnnechjmdmaaDoor.digestTake

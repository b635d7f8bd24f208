/- Which tree is built over any leaves: the statement TreeBuilds, tied to the program's text. No condition. -/
import Derived.Test.YtbdldnhpgpjnoaaDoorTrSt
namespace Go.Proofs.YtbdldnhpgpjnoaaDoor.treeBuilds
open Go.ChangeShapes Go.WideShapes Go.ChangeAt Go.RowKit
set_option linter.unusedVariables false
theorem own : ownKnob Tryd.prog.godebug = none := by kernel_rfl
attribute [local irreducible] nought sumVal sumC sumsL treeL
set_option maxRecDepth 100000 in
set_option maxHeartbeats 4000000 in
theorem walk (q0 : Option Addr) (n0 c0 : Nat) (a0 : Nat → Nat) (q1 : Option Addr) (n1 c1 : Nat) (a1 : Nat → Nat) (w0 : ∀ i, i < n0 → a0 i < 256) (l0 : n0 ≤ c0) (m0 : c0 ≤ maxLen) (w1 : ∀ i, i < n1 → a1 i < 256) (l1 : n1 ≤ c1) (m1 : c1 ≤ maxLen) (w : World) (hT : TabAt w) (y0 : BytesAt w q0 n0 a0) (y1 : BytesAt w q1 n1 a1) :
    Calls Tryd.prog 6 #[.slice q0 n0 c0, .slice q1 n1 c1] w fun e w' => e = .returned (.bool true) ∧ Below w.heap.size w w' := by
  clear m0 m1 l1
  by_cases hn : n0 ≤ 1000 ∧ n1 ≤ 200
  · obtain ⟨hn0, hn1⟩ := hn
    have d1 : ¬ ((1000 : Int) < (n0 : Int)) := by omega
    have d2 : ¬ ((200 : Int) < (n1 : Int)) := by omega
    have d3 : decide (1000 < n0) = false := decide_eq_false (by omega)
    have d4 : decide (200 < n1) = false := decide_eq_false (by omega)
    have SU := Lib.hid (sums_any q1 n1 c1 a1 w1 (by omega) w y1)
    have HLL := Lib.hid (sumsL_len n1 a1)
    have HLS := Lib.hid (sumsL_sum w1)
    have HN1 := Lib.hid hn1
    have HN0 := Lib.hid (show n0 ≤ 80000 by omega)
    have HK := Lib.hid (fun (V : World) (h : Below w.heap.size w V) => (⟨w0, l0, y0.below h, hT.on h⟩ : KeyAt V q0 n0 c0 a0))
    have B0 := Lib.hid (fun (V : World) (h : Below w.heap.size w V) (B : Nat) (hB : SumsB V B (List.replicate 16 nought)) => Build_any q0 n0 c0 a0 HN0.out (some ⟨B, 0, none⟩) 16 (List.replicate 16 nought) (by simp) (noughts_sum 16) V (HK.out V h) hB.at)
    clear w0 l0 hT y0 y1 w1 hn0 hn1
    by_cases h16 : n1 = 16
    · subst h16
      generalize sumsL 16 a1 = L at *
      have BA := Lib.hid (fun (V : World) (h : Below w.heap.size w V) p c (hr : RowsAt 32 sumC V p L) => Build_any q0 n0 c0 a0 HN0.out p c L HLL.out HLS.out V (HK.out V h) hr)
      have RA := Lib.hid (fun (V : World) (h : Below w.heap.size w V) p c (hr : RowsAt 32 sumC V p L) => refBuild_any q0 n0 c0 a0 HN0.out p c L HLL.out HLS.out V (HK.out V h) hr)
      have TL := Lib.hid (treeL_len n0 a0 L)
      go_enter Tryd.func6, Tryd.ntmps6
      go_wp2_with (first
        | (go_at_call 18; refine SU.out.mono ?_; rintro e w2 ⟨Bl, cl, rfl, ho, hb⟩
           have R2 := Lib.hid (sums_rows ho); have B2 := Lib.hid hb; clear ho hb SU)
        | (refine wpList_list0 elemSum rfl rfl ?_
           have O3 := Lib.hid (OwnL.empty 27 32 sumC w2 w2.heap.size (Nat.le_refl _))
           have B3 := Lib.hid (show Below w2.heap.size w2 (w2.alloc (.cells #[] 27)) from (Below.refl _ _).alloc (Nat.le_refl _) _)
           have S3 := Lib.hid (show (w2.alloc (.cells #[] 27)).heap.size = w2.heap.size + 1 from World.size_alloc _ _)
           generalize w2.alloc (.cells #[] 27) = w3 at *)
        | (refine wpList_grow elemSum rfl _ _ rfl w2.heap.size w3.heap.size _ [] L (some ⟨Bl, 0, none⟩) 16 cl rfl rfl HLL.out.symm (S3.out ▸ O3.out) (R2.out.below B3.out) (by rw [HLL.out]; have := HN1.out; simp only [List.length_nil]; omega) (by decide) (by rw [S3.out]; omega) ?_
           intro v4 w4 ho hb
           rw [List.nil_append] at ho
           obtain ⟨pc, cc, rfl, _, _, hr, _⟩ := ho.rows sumC_len
           rw [HLL.out]
           have S4 := Lib.hid (show LS w (some ⟨Bl, 0, none⟩) pc L w4 from ⟨B2.out.trans ((B3.out.trans hb).mono B2.out.size), R2.out.below (B3.out.trans hb), hr⟩)
           clear ho hb hr R2 B2 O3 B3 S3)
        | (go_at_call 15; refine (BA.out w4 S4.out.b _ _ S4.out.c).mono ?_; rintro e w5 ⟨rfl, ht, hb⟩
           have S5 := Lib.hid (S4.out.on hb); have T5 := Lib.hid ht; clear ht hb S4 BA)
        | (go_at_call 19; refine (same_any _ _ _ _ _ L HLL.out (by have := HN1.out; omega) w5 S5.out.c S5.out.l).mono ?_; rintro e w6 ⟨rfl, hb⟩
           have S6 := Lib.hid (S5.out.on hb); have T6 := Lib.hid (T5.out.below hb); clear hb S5 T5)
        | (refine wpList_make_sums rfl _ _ rfl 16 rfl rfl (by decide) (by decide) ?_; intro w7 hm hb
           have M7 := Lib.hid hm; have S7 := Lib.hid (S6.out.on hb); have T7 := Lib.hid (T6.out.below hb); clear hm hb S6 T6)
        | (go_at_call 15; refine (B0.out w7 S7.out.b _ M7.out).mono ?_; rintro e w8 ⟨rfl, _, hb⟩
           have S8 := Lib.hid (S7.out.on hb); have T8 := Lib.hid (T7.out.below hb); clear hb S7 M7 B0 T7)
        | (go_at_call 21; refine (RA.out w8 S8.out.b _ _ S8.out.l).mono ?_; rintro e w9 ⟨pr, cr, rfl, hr, hb⟩
           have S9 := Lib.hid (S8.out.on hb); have T9 := Lib.hid (T8.out.below hb); have R9 := Lib.hid hr; clear hb hr S8 T8 RA)
        | (go_at_call 19; refine (same_any _ _ _ _ _ (treeL n0 a0 L) TL.out (by decide) w9 T9.out.at R9.out).mono ?_; rintro e w10 ⟨rfl, hb⟩
           have B10 := Lib.hid (S9.out.b.trans (hb.mono S9.out.b.size)); clear hb S9 T9 R9))
      go_ret
      exact ⟨rfl, B10.out⟩
    · generalize sumsL n1 a1 = L at *
      have d5 : ¬ ((n1 : Int) = 16) := by omega
      have BN := Lib.hid (fun (V : World) p c => Build_no q0 n0 c0 p n1 c h16 V)
      have IE := Lib.hid (fun (V : World) => Is_err 2 rfl V)
      go_enter Tryd.func6, Tryd.ntmps6
      go_wp2_with (first
        | (go_at_call 18; refine SU.out.mono ?_; rintro e w2 ⟨Bl, cl, rfl, ho, hb⟩
           have R2 := Lib.hid (sums_rows ho); have B2 := Lib.hid hb; clear ho hb SU)
        | (refine wpList_list0 elemSum rfl rfl ?_
           have O3 := Lib.hid (OwnL.empty 27 32 sumC w2 w2.heap.size (Nat.le_refl _))
           have B3 := Lib.hid (show Below w2.heap.size w2 (w2.alloc (.cells #[] 27)) from (Below.refl _ _).alloc (Nat.le_refl _) _)
           have S3 := Lib.hid (show (w2.alloc (.cells #[] 27)).heap.size = w2.heap.size + 1 from World.size_alloc _ _)
           generalize w2.alloc (.cells #[] 27) = w3 at *)
        | (refine wpList_grow elemSum rfl _ _ rfl w2.heap.size w3.heap.size _ [] L (some ⟨Bl, 0, none⟩) n1 cl rfl rfl HLL.out.symm (S3.out ▸ O3.out) (R2.out.below B3.out) (by rw [HLL.out]; have := HN1.out; simp only [List.length_nil]; omega) (by decide) (by rw [S3.out]; omega) ?_
           intro v4 w4 ho hb
           rw [List.nil_append] at ho
           obtain ⟨pc, cc, rfl, _, _, hr, _⟩ := ho.rows sumC_len
           rw [HLL.out]
           have S4 := Lib.hid (show LS w (some ⟨Bl, 0, none⟩) pc L w4 from ⟨B2.out.trans ((B3.out.trans hb).mono B2.out.size), R2.out.below (B3.out.trans hb), hr⟩)
           clear ho hb hr R2 B2 O3 B3 S3)
        | (go_at_call 15; refine (BN.out w4 _ _).mono ?_; rintro e w5 ⟨rfl, rfl⟩; clear BN)
        | (go_at_call 19; refine (same_any _ _ _ _ _ L HLL.out (by have := HN1.out; omega) w4 S4.out.c S4.out.l).mono ?_; rintro e w6 ⟨rfl, hb⟩
           have S6 := Lib.hid (S4.out.on hb); clear hb S4)
        | (refine wpList_make_sums rfl _ _ rfl 16 rfl rfl (by decide) (by decide) ?_; intro w7 hm hb
           have M7 := Lib.hid hm; have S7 := Lib.hid (S6.out.on hb); clear hm hb S6)
        | (go_at_call 15; refine (B0.out w7 S7.out.b _ M7.out).mono ?_; rintro e w8 ⟨rfl, _, hb⟩
           have S8 := Lib.hid (S7.out.on hb); clear hb S7 M7 B0)
        | (go_at_call 20; refine (IE.out w8).mono ?_; rintro e w9 ⟨rfl, rfl⟩))
      go_ret
      exact ⟨rfl, S8.out.b⟩
  · clear y0 y1 hT w0 w1
    by_cases h1 : n0 ≤ 1000
    · have d1 : ¬ ((1000 : Int) < (n0 : Int)) := by omega
      have d2 : (200 : Int) < (n1 : Int) := by omega
      have d3 : decide (1000 < n0) = false := decide_eq_false (by omega)
      have d4 : decide (200 < n1) = true := decide_eq_true (by omega)
      go_enter Tryd.func6, Tryd.ntmps6
      go_wp2
      go_ret
      exact ⟨rfl, Below.refl _ _⟩
    · have d1 : (1000 : Int) < (n0 : Int) := by omega
      have d3 : decide (1000 < n0) = true := decide_eq_true (by omega)
      go_enter Tryd.func6, Tryd.ntmps6
      go_wp2
      go_ret
      exact ⟨rfl, Below.refl _ _⟩
theorem laidOut : laidOutB Tryd.prog = true := by kernel_rfl
set_option maxRecDepth 100000 in
theorem lifted (os : Os) (started : os.Started) (H : Type) (enc : TypeId × Value → H) :
    ReturnsInHanded {} Tryd.checked os 6 .any (fun w args => (Rows.treeBuildsSpec.pre enc Tryd.prog Tryd.f6 Rows.treeBuildsRow.domain false w args ∧ laidMetH Tryd.prog Rows.treeBuildsRow.laid w) ∧ sizedMet enc Tryd.prog Tryd.f6 (OpenSpec.ofChange Rows.treeBuildsSpec) false w args) (Rows.treeBuildsSpec.post enc Tryd.prog Tryd.f6 false true false false) := by
  refine returnsInHanded_of_change_and (C := Tryd.checked) (X := fun w _ => laidMetH Tryd.prog Rows.treeBuildsRow.laid w) (fun _ _ _ hh h => h.of_heap hh) own started (by kernel_rfl) Tryd.func6
    (ChangeSpec.witness_shaped (enc := enc) (C := Tryd.checked) (os := os) (X := fun w _ => laidMetH Tryd.prog Rows.treeBuildsRow.laid w) false (World.laidAll Tryd.prog os Rows.treeBuildsRow.laid) #[.slice none 0 0, .slice none 0 0] 8 (World.laidAll_os _ _ _)
      (World.shaped_of_ZipB (by kernel_rfl) (by kernel_rfl)) (by kernel_rfl) (by kernel_rfl) (by kernel_rfl)
      (by rw [MakeChecks.laidMetH_plain _ _ _ (by kernel_rfl)]; exact laidMet_laidAll _ (by kernel_rfl) (by kernel_rfl))) ?_
  intro W base args ds gs before hval0 hW hcnd hsz hL _
  have hT := tab_of_laid hL
  have hval : ∀ (j : Nat) t v, Tryd.f6.params[j]? = some t → args[j]? = some v → Value.okWide Tryd.prog W .any base t v := hval0
  have hW' := hW
  obtain ⟨p, q, hA0, hV, rfl, hfz, hnd⟩ := hW
  have hA : DataW.TrodAll enc Tryd.prog W 0 (fun _ => true) true Tryd.f6.params.toList args.toList ds p := hA0
  rw [Tryd.params6] at hA hval
  obtain ⟨v0, vs0, d0, ds0, p0, q0, hargs, rfl, rfl, h0, r0⟩ := trodAll_cons hA
  obtain ⟨v1, vs1, d1, ds1, p1, q1, rfl, rfl, rfl, h1, r1⟩ := trodAll_cons r0
  obtain ⟨rfl, rfl, rfl⟩ := trodAll_nil r1
  obtain rfl : args = #[v0, v1] := by cases args; simp_all
  obtain ⟨rfl, rfl⟩ := trodVars_none hV
  have k0 := h0
  have lt0 : ∀ x ∈ p0, x.block < W.heap.size := by obtain ⟨m, hm⟩ := k0; exact DataW.trod_lt m _ _ _ hm
  obtain ⟨q0, n0, c0, a0, rfl, w0, y0, l0, m0⟩ := open_byteslice (hval 0 22 v0 rfl rfl) h0
  have k1 := h1
  have lt1 : ∀ x ∈ p1, x.block < W.heap.size := by obtain ⟨m, hm⟩ := k1; exact DataW.trod_lt m _ _ _ hm
  obtain ⟨q1, n1, c1, a1, rfl, w1, y1, l1, m1⟩ := open_byteslice (hval 1 22 v1 rfl rfl) h1
  clear hA0 hval0
  refine (walk q0 n0 c0 a0 q1 n1 c1 a1 w0 l0 m0 w1 l1 m1 W hT y0 y1).mono fun e W' ⟨he, bel⟩ => ?_
  subst he
  exact ⟨_, rfl, _, _, _, [], _, [], hW', trodAll_mk1 (shut_bool Tryd.underlying4 _), (trodAll_cons_mk (Below.trod laidOut (by kernel_rfl) (of_decide_eq_true (by kernel_rfl)) k0 bel lt0) (trodAll_cons_mk (Below.trod laidOut (by kernel_rfl) (of_decide_eq_true (by kernel_rfl)) k1 bel lt1) trodAll_mk0)), rfl, bel.frame _, fun h => by cases h⟩

theorem over : Rows.treeBuildsRow.holds Tryd.pinned (OpenSpec.ofChange Rows.treeBuildsSpec) :=
  OpenClaim.holds_of_wide 6 Tryd.f6 rfl rfl rfl rfl rfl rfl rfl ⟨rfl, rfl, rfl, rfl, rfl⟩ rfl rfl rfl rfl rfl (by kernel_rfl) Tryd.func6 (by kernel_rfl)
    (of_decide_eq_true (by kernel_rfl)) (by unfold Func.isWrapper; first | (rw [if_pos (by decide +kernel)]; kernel_rfl) | (rw [if_neg (by decide +kernel)]; exact ⟨rfl, rfl⟩))
    (fun os started H enc _ => lifted os started H enc)

set_option maxRecDepth 100000 in
theorem proved : Rows.TreeBuildsCardSaid :=
  Claim7.holds_tied_plain_at .later [] [.data] true (true, "9cdaf957ca4f470c175790aa6dd30bf08ec4d45d6deccd3b138243499fd01b2a") true
    over (fun _ h => by cases h) (by kernel_rfl) (fun _ h => by cases h) treeBuilds_row_tie rfl ⟨rfl, rfl⟩ (by kernel_rfl) rfl
    (fun f fn hf hfn => by
      obtain rfl : f = 6 := Option.some.inj ((show Tryd.prog.funcNamed "citadel/citadellaw11.TreeBuilds" = some 6 by kernel_rfl).symm.trans hf) |>.symm
      obtain rfl : fn = Tryd.f6 := (Option.some.inj (Tryd.func6.symm.trans hfn)).symm
      exact ⟨by kernel_rfl, fun j t ht => by
        rw [Tryd.params6] at ht
        rcases j with _ | _ | j
        · obtain rfl : t = 22 := by simpa using ht.symm
          exact (show Tryd.prog.wantsStandIn 22 = false by kernel_rfl)
        · obtain rfl : t = 22 := by simpa using ht.symm
          exact (show Tryd.prog.wantsStandIn 22 = false by kernel_rfl)
        · simp at ht⟩)
    (by kernel_rfl)
end Go.Proofs.YtbdldnhpgpjnoaaDoor.treeBuilds

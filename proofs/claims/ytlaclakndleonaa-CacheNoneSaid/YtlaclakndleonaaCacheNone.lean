/- CacheNone: what a nil cache answers, for every operation. Condition: none but the arguments' own forms; package cache by cacheSpec. -/
import Derived.Test.YtlaclakndleonaaCmSpec
import Derived.Test.YtlaclakndleonaaCaNone
namespace Go.Proofs.Ytlaclakndleonaa.cacheNone
open Go.ChangeShapes Go.WideShapes Go.ChangeAt Go.RowKit
set_option linter.unusedVariables false
theorem own : ownKnob Try.prog.godebug = none := by kernel_rfl
attribute [local irreducible] Go.Proofs.Ytlaclakndleonaa.mk lineC oneB
set_option maxRecDepth 100000 in
set_option maxHeartbeats 4000000 in
theorem walk {At : AtT} (K : CacheSpec At) (c : OpOf) (hc : c.ok) (w : World) : Calls Try.prog 7 #[.agg c.cells.toArray] w fun e w' => e = .returned (.bool true) ∧ Below w.heap.size w w' := by
  have HK := Lib.hid K
  have HC := Lib.hid hc
  have A1 := Lib.hid (show OpBox (w.alloc (.cells c.cells.toArray 38)) w.heap.size c from heap_alloc_new _ _)
  have B1 := Lib.hid (show Below w.heap.size w (w.alloc (.cells c.cells.toArray 38)) from (Below.refl _ w).alloc (Nat.le_refl _) _)
  have S1 := Lib.hid (show (w.alloc (.cells c.cells.toArray 38)).heap.size = w.heap.size + 1 from World.size_alloc _ _)
  have ZS := Lib.hid (show sameLine noLine noLine = true from (sameLine_iff noLine_ok noLine_ok).2 rfl)
  clear hc
  go_enter Try.func7, Try.ntmps7
  go_wp2_with (first
    | (go_at_call 8
       generalize w.alloc (.cells c.cells.toArray 38) = u1 at *
       refine (alive_ok HK.out u1).mono ?_; rintro e w2 ⟨rfl, hb2⟩
       have A2 := Lib.hid (A1.out.below hb2 A1.out.lt)
       have B2 := Lib.hid (B1.out.trans (hb2.mono B1.out.size))
       have k1 := A2.out.cell 1
       have k2 := A2.out.cell 2
       simp only [OpOf.cells, List.getElem?_cons_succ, List.getElem?_cons_zero] at k1 k2
       clear hb2 A1 B1 S1)
    | (go_at_call 12; refine (HK.out.nil_get c.u c.b _).mono ?_; rintro e w3 ⟨rfl, hb3⟩
       have BL := Lib.hid (box_laid w3 noLine)
       have A3 := Lib.hid (A2.out.below (hb3.trans (BL.out.2.1.mono hb3.size)) A2.out.lt)
       have B3 := Lib.hid (B2.out.trans ((hb3.trans (BL.out.2.1.mono hb3.size)).mono B2.out.size))
       clear hb3 A2 B2 k1 k2)
    | (refine wpList_line_alloc rfl rfl w3.heap.size rfl ?_)
    | (refine store_row_on rfl 42 _ _ rfl rfl w3.heap.size (lineC noLine).toArray rfl rfl 42 (lineC noLine).toArray (heap_alloc_new _ _) (lineA_size _) (lineA_same _ _) (lineA_one _) ?_
       have L3 := Lib.hid BL.out.1
       clear BL
       generalize (w3.alloc (.cells (lineC noLine).toArray 42)).setRow w3.heap.size (lineC noLine).toArray = w4 at *)
    | (refine wpList_line_load_w rfl _ rfl w3.heap.size 0 rfl noLine (L3.out.range) ?_)
    | (refine wpList_line_build0 rfl rfl ?_)
    | (refine wpList_line_eql rfl _ _ rfl noLine noLine rfl rfl _ ZS.out ?_)
    | (go_at_call 11; refine (HK.out.nil_quota _).mono ?_; rintro e w5 ⟨rfl, hb5⟩
       have A5 := Lib.hid (A3.out.below hb5 A3.out.lt)
       have B5 := Lib.hid (B3.out.trans (hb5.mono B3.out.size))
       clear hb5 A3 B3 L3)
    | (refine wpList_op_load rfl _ rfl w.heap.size 0 rfl c (A5.out.range) ?_)
    | (go_at_call 16; refine (line_any c HC.out _).mono ?_; rintro e w6 ⟨rfl, hb6⟩
       have A6 := Lib.hid (A5.out.below hb6 A5.out.lt)
       have B6 := Lib.hid (B5.out.trans (hb6.mono B5.out.size))
       clear hb6 A5 B5)
    | (go_at_call 15; refine (HK.out.nil_put c.line _ (OpOf.line_ok HC.out)).mono ?_; rw [errN_seven]; rintro e w7 ⟨rfl, hb7⟩
       have A7 := Lib.hid (A6.out.below hb7 A6.out.lt)
       have B7 := Lib.hid (B6.out.trans (hb7.mono B6.out.size))
       clear hb7 A6 B6)
    | (go_at_call 10; refine (Is_err 7 rfl _).mono ?_; rintro e w8 ⟨rfl, rfl⟩)
    | (go_at_call 18; refine (HK.out.nil_clean _).mono ?_; rintro e w8 ⟨rfl, hb8⟩
       have A8 := Lib.hid (A7.out.below hb8 A7.out.lt)
       have B8 := Lib.hid (B7.out.trans (hb8.mono B7.out.size))
       have k1 := A8.out.cell 1
       simp only [OpOf.cells, List.getElem?_cons_succ, List.getElem?_cons_zero] at k1
       clear hb8 A7 B7)
    | (go_at_call 20; refine (HK.out.nil_drop c.u _).mono ?_; rintro e w9 ⟨rfl, hb9⟩
       have B9 := Lib.hid (B8.out.trans (hb9.mono B8.out.size))
       clear hb9 A8 B8 k1)
    | (go_at_call 22; refine (HK.out.nil_lines _).mono ?_; rintro e wa ⟨v, rfl, ho, hba⟩
       obtain ⟨pa, ca, hva, -, -, -, -⟩ := ho.rows elemLine.len
       subst hva
       have BA := Lib.hid (B9.out.trans (hba.mono B9.out.size))
       clear hba ho B9)
    | (go_at_call 25; refine (show Calls Try.prog 25 #[.pointer none, .int .i64 9] wa _ from dirty_any (.pointer none) 9 [] (by decide) wa (fun W hW => (HK.out.nil_dirty W).mono fun e w' ⟨v, T, a, hi, hT, hb⟩ => ⟨v, T, a, hi, fun k hk => .inr (hT k hk), hb⟩)).mono ?_; rintro e wb ⟨v, rfl, ho, hbb⟩
       obtain ⟨pb, cb, hvb, -, -, -, -⟩ := ho.rows elemLine.len
       subst hvb
       have BB := Lib.hid (BA.out.trans (hbb.mono BA.out.size))
       clear hbb ho BA))
  go_ret
  exact ⟨rfl, BB.out⟩
theorem laidOut : laidOutB Try.prog = true := by kernel_rfl
set_option maxRecDepth 100000 in
theorem lifted (os : Os) (started : os.Started) (H : Type) (enc : TypeId × Value → H) :
    ReturnsInHanded {} Try.checked os 7 .any (Rows.cacheNoneSpec.pre6 enc Try.prog Try.f7 Rows.cacheNoneRow.domain false) (Rows.cacheNoneSpec.post enc Try.prog Try.f7 false true false false) := by
  refine returnsInHanded_of_change (C := Try.checked) own started (by kernel_rfl) Try.func7
    (ChangeSpec.witness6 (enc := enc) (C := Try.checked) false ⟨#[], #[.agg #[.int .i64 0, .int .i64 0, .int .i64 0, .int .u8 0, .bool false]], []⟩ 8 (by kernel_rfl) (by kernel_rfl) (by kernel_rfl) (by kernel_rfl)) ?_
  intro W base args ds gs before hval0 hW hcnd _
  have hval : ∀ (j : Nat) t v, Try.f7.params[j]? = some t → args[j]? = some v → Value.okWide Try.prog W .any base t v := hval0
  have hW' := hW
  obtain ⟨p, q, hA0, hV, rfl, hfz, hnd⟩ := hW
  have hA : DataW.TrodAll enc Try.prog W 0 (fun _ => true) true Try.f7.params.toList args.toList ds p := hA0
  rw [Try.params7] at hA hval
  obtain ⟨v0, vs0, d0, ds0, p0, q0, hargs, rfl, rfl, h0, r0⟩ := trodAll_cons hA
  obtain ⟨rfl, rfl, rfl⟩ := trodAll_nil r0
  obtain rfl : args = #[v0] := by cases args; simp_all
  obtain ⟨rfl, rfl⟩ := trodVars_none hV
  have k0 := h0
  have lt0 : ∀ x ∈ p0, x.block < W.heap.size := by obtain ⟨m, hm⟩ := k0; exact DataW.trod_lt m _ _ _ hm
  obtain ⟨c0, rfl, w0⟩ := open_op (hval 0 38 v0 rfl rfl) h0
  clear hA0 hval0
  refine (walk cacheSpec c0 w0 W).mono fun e W' ⟨he, bel⟩ => ?_
  subst he
  exact ⟨_, rfl, _, _, _, [], _, [], hW', trodAll_mk1 (shut_bool Try.underlying4 _), (trodAll_cons_mk (Below.trod laidOut (by kernel_rfl) (of_decide_eq_true (by kernel_rfl)) k0 bel lt0) trodAll_mk0), rfl, bel.frame _, fun h => by cases h⟩

theorem over : Rows.cacheNoneRow.holds Try.pinned (OpenSpec.ofChange Rows.cacheNoneSpec) :=
  OpenClaim.holds_of_wide 7 Try.f7 rfl rfl rfl rfl rfl rfl rfl ⟨rfl, rfl, rfl, rfl, rfl⟩ rfl rfl rfl rfl rfl (by kernel_rfl) Try.func7 (by kernel_rfl)
    (of_decide_eq_true (by kernel_rfl)) (by unfold Func.isWrapper; first | (rw [if_pos (by decide +kernel)]; kernel_rfl) | (rw [if_neg (by decide +kernel)]; exact ⟨rfl, rfl⟩))
    (fun os started H enc _ => lifted os started H enc)

theorem proved : Rows.CacheNoneSaid := over
end Go.Proofs.Ytlaclakndleonaa.cacheNone

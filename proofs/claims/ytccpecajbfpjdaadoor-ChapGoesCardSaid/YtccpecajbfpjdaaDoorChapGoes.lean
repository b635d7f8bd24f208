/- ChapGoes: fresh bytes go on where they ended. Conditions: the package's variable holds the constants; package chap answers as its spec says. -/
import Derived.Test.YtccpecajbfpjdaaDoorChGo
import Derived.Test.YtccpecajbfpjdaaDoorChOp2
import Derived.Test.YtccpecajbfpjdaaDoorTie
import Derived.Test.YtccpecajbfpjdaaDoorCards
namespace Go.Proofs.YtccpecajbfpjdaaDoor
open Go.ChangeShapes Go.WideShapes Go.ChangeAt Go.RowKit Go.Shelf
namespace chapGoes
set_option linter.unusedVariables false
set_option linter.unusedSimpArgs false
attribute [local go_sem] Oper.semAt_some
set_option maxRecDepth 100000 in
set_option maxHeartbeats 1000000 in
theorem walk (CS : ChapSpec) {w : World} (hT : TabAt w) (s b f g : Int) (hs : okI s) (hb : okI b) (hf : okI f) (hg : okI g) : Calls Tryd.prog 8 #[.agg #[.int .i64 s, .int .i64 b, .int .i64 f, .int .i64 g]] w fun e w' => e = .returned (.bool true) ∧ Below w.heap.size w w' := by
  have GO := Lib.hid (fun (W : World) (t : TabAt W) => goes_any CS t s b f g hs hb)
  have HT := Lib.hid hT
  clear hT hs hb hf hg CS
  go_enter Tryd.func8, Tryd.ntmps8
  go_wp2_with (first
  | (with_reducible show wpList _ _ _ (⟨some 1, Op.box 45 _, _, _, _, none⟩ :: _) _ _
     refine wpList_boxA_of rfl _ rfl #[.int .i64 s, .int .i64 b, .int .i64 f, .int .i64 g] rfl ?_
     intro w1 x1 l1 s1
     have P1 := Lib.hid l1
     have c0 : w1.cell? ⟨w.heap.size, 0, none⟩ = some (.int .i64 s) := x1.cell 0
     have c1 : w1.cell? ⟨w.heap.size, 1, none⟩ = some (.int .i64 b) := x1.cell 1
     have c2 : w1.cell? ⟨w.heap.size, 2, none⟩ = some (.int .i64 f) := x1.cell 2
     have c3 : w1.cell? ⟨w.heap.size, 3, none⟩ = some (.int .i64 g) := x1.cell 3
     clear x1 l1 s1)
  | (go_at_call 21
     refine (GO.out w1 (HT.out.on P1.out)).mono ?_; rintro e w2 ⟨rfl, l2⟩
     have P2 := Lib.hid (P1.out.trans (l2.mono P1.out.size))
     clear l2))
  go_ret
  exact ⟨rfl, P2.out⟩
theorem own : ownKnob Tryd.prog.godebug = none := by kernel_rfl
theorem laidOut : laidOutB Tryd.prog = true := by kernel_rfl
set_option maxRecDepth 100000 in
theorem lifted (os : Os) (started : os.Started) (H : Type) (enc : TypeId × Value → H) :
    ReturnsInHanded {} Tryd.checked os 8 .any (fun w args => (Rows.chapGoesSpec.pre enc Tryd.prog Tryd.f8 Rows.chapGoesRow.domain false w args ∧ laidMetH Tryd.prog Rows.chapGoesRow.laid w) ∧ sizedMet enc Tryd.prog Tryd.f8 (OpenSpec.ofChange Rows.chapGoesSpec) false w args) (Rows.chapGoesSpec.post enc Tryd.prog Tryd.f8 false true false false) := by
  refine returnsInHanded_of_change_and (C := Tryd.checked) (X := fun w _ => laidMetH Tryd.prog Rows.chapGoesRow.laid w) (fun _ _ _ hh h => h.of_heap hh) own started (by kernel_rfl) Tryd.func8
    (ChangeSpec.witness_shaped (enc := enc) (C := Tryd.checked) (os := os) (X := fun w _ => laidMetH Tryd.prog Rows.chapGoesRow.laid w) false (World.laidAll Tryd.prog os Rows.chapGoesRow.laid) #[.agg #[.int .i64 0, .int .i64 0, .int .i64 0, .int .i64 0]] 8 (World.laidAll_os _ _ _)
      (World.shaped_of_ZipB (by kernel_rfl) (by kernel_rfl)) (by kernel_rfl) (by kernel_rfl) (by kernel_rfl)
      (by rw [MakeChecks.laidMetH_plain _ _ _ (by kernel_rfl)]; exact laidMet_laidAll _ (by kernel_rfl) (by kernel_rfl))) ?_
  intro W base args ds gs before hval0 hW hcnd hsz hL _
  have hT := tab_of_laid hL
  have hval : ∀ (j : Nat) t v, Tryd.f8.params[j]? = some t → args[j]? = some v → Value.okWide Tryd.prog W .any base t v := hval0
  have hW' := hW
  obtain ⟨p, q, hA0, hV, rfl, hfz, hnd⟩ := hW
  have hA : DataW.TrodAll enc Tryd.prog W 0 (fun _ => true) true Tryd.f8.params.toList args.toList ds p := hA0
  rw [Tryd.params8] at hA hval
  obtain ⟨v0, vs0, d0, ds0, p0, q0, hargs, rfl, rfl, h0, r0⟩ := trodAll_cons hA
  obtain ⟨rfl, rfl, rfl⟩ := trodAll_nil r0
  obtain rfl : args = #[v0] := by cases args; simp_all
  obtain ⟨rfl, rfl⟩ := trodVars_none hV
  have k0 := h0
  have lt0 : ∀ x ∈ p0, x.block < W.heap.size := by obtain ⟨m, hm⟩ := k0; exact DataW.trod_lt m _ _ _ hm
  obtain ⟨s0, b0, f0, g0, rfl, w0, x0, y0, u0⟩ := open_drawn (hval 0 45 v0 rfl rfl) h0
  clear hA0 hval0
  refine (walk chapSpec hT s0 b0 f0 g0 w0 x0 y0 u0).mono fun e W' ⟨he, bel⟩ => ?_
  subst he
  exact ⟨_, rfl, _, _, _, [], _, [], hW', trodAll_mk1 (shut_bool Tryd.underlying4 _), (trodAll_cons_mk (Below.trod laidOut (by kernel_rfl) (of_decide_eq_true (by kernel_rfl)) k0 bel lt0) trodAll_mk0), rfl, bel.frame _, fun h => by cases h⟩

theorem over : Rows.chapGoesRow.holds Tryd.pinned (OpenSpec.ofChange Rows.chapGoesSpec) :=
  OpenClaim.holds_of_wide 8 Tryd.f8 rfl rfl rfl rfl rfl rfl rfl ⟨rfl, rfl, rfl, rfl, rfl⟩ rfl rfl rfl rfl rfl (by kernel_rfl) Tryd.func8 (by kernel_rfl)
    (of_decide_eq_true (by kernel_rfl)) (by unfold Func.isWrapper; first | (rw [if_pos (by decide +kernel)]; kernel_rfl) | (rw [if_neg (by decide +kernel)]; exact ⟨rfl, rfl⟩))
    (fun os started H enc _ => lifted os started H enc)

set_option maxRecDepth 100000 in
theorem proved : Rows.ChapGoesCardSaid :=
  Claim7.holds_tied_plain_at .later [] [.data] true (true, "fe2b54f320b46724d36697ff86eea2ee1142ca5255bc475a87788847d3b0ab21") false
    over (fun _ h => by cases h) (by kernel_rfl) (fun _ h => by cases h) chapGoes_row_tie rfl ⟨rfl, rfl⟩ (by kernel_rfl) rfl
    (fun f fn hf hfn => by
      obtain rfl : f = 8 := Option.some.inj ((show Tryd.prog.funcNamed "citadel/citadellaw16.ChapGoes" = some 8 by kernel_rfl).symm.trans hf) |>.symm
      obtain rfl : fn = Tryd.f8 := (Option.some.inj (Tryd.func8.symm.trans hfn)).symm
      exact ⟨by kernel_rfl, fun j t ht => by
        rw [Tryd.params8] at ht
        rcases j with _ | j
        · obtain rfl : t = 45 := by simpa using ht.symm
          exact (show Tryd.prog.wantsStandIn 45 = false by kernel_rfl)
        · simp at ht⟩)
    (by kernel_rfl)
end chapGoes
end Go.Proofs.YtccpecajbfpjdaaDoor

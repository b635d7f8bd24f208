/- Package sbox's rounds' constants are the document's: the statement SboxConstants. No condition. -/
import Derived.Test.YtpllcaeghpijiaaRefConst
import Derived.Test.YtpllcaeghpijiaaQuietW
namespace Go.Proofs.Ytpllcaeghpijiaa.sboxConstants
open Go.ChangeShapes Go.WideShapes Go.ChangeAt Go.RowKit
set_option linter.unusedVariables false

theorem own : ownKnob Try.prog.godebug = none := by kernel_rfl
theorem nine : mk 4 (oneK (conN 9)) = mk 4 (oneK 27) := by decide +kernel
theorem call_const (args : Array Value) (w : World) : (callFunc 15 args).run Try.prog w = .ok (.enter 15 args) w := by simp [go_sem]
theorem call_ref (args : Array Value) (w : World) : (callFunc 16 args).run Try.prog w = .ok (.enter 16 args) w := by simp [go_sem]
theorem class_const {W0 : World} (i : Int) : ∀ w, Below W0.heap.size W0 w → Calls Try.prog 15 #[.int .i64 i] w fun e w' => e = .returned (.agg (cellsOf .u8 (mk 4 (oneK (conN i))))) ∧ Below W0.heap.size W0 w' :=
  fun w hw => (Constant_any i w).mono fun _ _ ⟨he, hb⟩ => ⟨he, hw.trans (hb.mono hw.size)⟩
theorem class_ref {W0 : World} (i : Int) : ∀ w, Below W0.heap.size W0 w → Calls Try.prog 16 #[.int .i64 i] w fun e w' => e = .returned (.int .u8 (conN i : Nat)) ∧ Below W0.heap.size W0 w' :=
  fun w hw => (refConst_any i w).mono fun _ _ ⟨he, hb⟩ => ⟨by rw [conN_is]; exact he, hw.trans (hb.mono hw.size)⟩
attribute [local irreducible] conN conI

set_option maxRecDepth 100000 in
set_option maxHeartbeats 2000000 in
theorem walk (i : Int) (w0 : (Lit.int .i64 i).wf = true) (w : World) :
    Calls Try.prog 7 #[.int .i64 i] w fun e w' => e = .returned (.bool true) ∧ Below w.heap.size w w' := by
  go_enter Try.func7, Try.ntmps7
  go_wp2_with fail
  refine (Constant_any i _).mono ?_
  rintro e w1 ⟨rfl, hb⟩
  have HT := Lib.hid ((IntBlk.new w1 .u8 26 (mk 4 zeroK)).setRow .u8 (mk 4 (oneK (conN i))))
  have HW := Lib.hid (below_setRow (hb.alloc hb.size (.cells (cellsOf .u8 (mk 4 zeroK)) 26)) (g := w1.heap.size) hb.size (cellsOf .u8 (mk 4 (oneK (conN i)))))
  clear hb
  go_wp2_with (refine store_row_on rfl 26 _ _ rfl rfl w1.heap.size (cellsOf .u8 (mk 4 (oneK (conN i)))) rfl rfl 26 (cellsOf .u8 (mk 4 zeroK)) (IntBlk.new w1 .u8 _ (mk 4 zeroK)) (wordSize _) (by rw [cellsOf_size, cellsOf_size, mk_len, mk_len]) (cellsOf_one _ _) ?_)
  have hT : IntBlk ((w1.alloc (.cells #[.int .u8 0, .int .u8 0, .int .u8 0, .int .u8 0] 26)).setRow w1.heap.size (cellsOf .u8 (mk 4 (oneK (conN i))))) w1.heap.size .u8 26 (mk 4 (oneK (conN i))) := HT.out
  have hW : Below w.heap.size w ((w1.alloc (.cells #[.int .u8 0, .int .u8 0, .int .u8 0, .int .u8 0] 26)).setRow w1.heap.size (cellsOf .u8 (mk 4 (oneK (conN i))))) := HW.out
  clear HT HW
  generalize (w1.alloc (.cells #[.int .u8 0, .int .u8 0, .int .u8 0, .int .u8 0] 26)).setRow w1.heap.size (cellsOf .u8 (mk 4 (oneK (conN i)))) = W0 at *
  generalize w1.heap.size = T at *
  have BT : ∀ w', Below W0.heap.size W0 w' → IntBlk w' T .u8 26 (mk 4 (oneK (conN i))) := fun w' h => hT.below h hT.lt
  have HB := Lib.hid BT
  have HW := Lib.hid hW
  have BS : w.heap.size ≤ W0.heap.size := hW.size
  clear BT hT hW
  refine wp_region_class (fun w' => Below W0.heap.size W0 w') (by kernel_rfl) (by kernel_rfl) ((Below.refl _ _).drew) ?_
  iterate 11 (first
    | go_big_quiet_skip
    | (go_big_quiet_want
       first
         | (go_big_quiet_op; go_big_quiet_on)
         | ((first
             | (refine quiet_word_load _ rfl T _ rfl HB.out ?_)
             | (refine quiet_word_build _ rfl 27 rfl ?_)
             | (refine quiet_word_build _ rfl (conN i) rfl ?_)
             | (refine quiet_pick _ _ _ rfl rfl rfl ?_)
             | (refine quiet_int _ _ _ rfl 15 rfl _ rfl _ call_const (class_const _) ?_)
             | (refine quiet_int _ _ _ rfl 16 rfl _ rfl _ call_ref (class_ref _) ?_)
             | (refine quiet_word_eql _ _ rfl _ _ rfl rfl (by first | exact nine | rfl) ?_)); go_simp; go_big_quiet_on)))
  refine wpQuiet_nil ?_
  intro w3 hw3
  have H1 := Lib.hid (HW.out.trans (hw3.mono BS)); clear hw3
  go_wp2
  go_ret
  exact ⟨rfl, H1.out⟩

set_option maxRecDepth 100000 in
theorem lifted (os : Os) (started : os.Started) (H : Type) (enc : TypeId × Value → H) :
    ReturnsInHanded {} Try.checked os 7 .any (Rows.sboxConstantsSpec.pre6 enc Try.prog Try.f7 Rows.sboxConstantsRow.domain false) (Rows.sboxConstantsSpec.post enc Try.prog Try.f7 false true false false) := by
  refine returnsInHanded_of_change (C := Try.checked) own started (by kernel_rfl) Try.func7
    (ChangeSpec.witness6 (enc := enc) (C := Try.checked) false ⟨#[], #[.int .i64 0], []⟩ 8 (by kernel_rfl) (by kernel_rfl) (by kernel_rfl) (by kernel_rfl)) ?_
  intro W base args ds gs before hval0 hW hcnd _
  have hval : ∀ (j : Nat) t v, Try.f7.params[j]? = some t → args[j]? = some v → Value.okWide Try.prog W .any base t v := hval0
  have hW' := hW
  obtain ⟨p, q, hA0, hV, rfl, hfz, hnd⟩ := hW
  have hA : DataW.TrodAll enc Try.prog W 0 (fun _ => true) true Try.f7.params.toList args.toList ds p := hA0
  rw [Try.params7] at hA hval
  obtain ⟨v0, vs0, d0, ds0, p0, q0, hargs, rfl, rfl, h0, r0⟩ := trodAll_cons hA
  obtain ⟨rfl, rfl, rfl⟩ := trodAll_nil r0
  obtain rfl : args = #[v0] := by cases args; simp_all
  obtain ⟨rfl, rfl⟩ := trodVars_none hV
  obtain ⟨a0, rfl, rfl, rfl, w0⟩ := open_int Try.underlying3 (hval 0 3 v0 rfl rfl) h0
  clear hA0 hval0
  refine (walk a0 w0 W).mono fun e W' ⟨he, bel⟩ => ?_
  subst he
  exact ⟨_, rfl, _, _, _, [], _, [], hW', trodAll_mk1 (shut_bool Try.underlying4 _), (trodAll_cons_mk (shut_int Try.underlying3 w0) trodAll_mk0), rfl, bel.frame _, fun h => by cases h⟩

theorem over : Rows.sboxConstantsRow.holds Try.pinned (OpenSpec.ofChange Rows.sboxConstantsSpec) :=
  OpenClaim.holds_of_wide 7 Try.f7 rfl rfl rfl rfl rfl rfl rfl ⟨rfl, rfl, rfl, rfl, rfl⟩ rfl rfl rfl rfl rfl (by kernel_rfl) Try.func7 (by kernel_rfl)
    (of_decide_eq_true (by kernel_rfl)) (by unfold Func.isWrapper; first | (rw [if_pos (by decide +kernel)]; kernel_rfl) | (rw [if_neg (by decide +kernel)]; exact ⟨rfl, rfl⟩))
    (fun os started H enc _ => lifted os started H enc)

theorem proved : Rows.SboxConstantsSaid := over
end Go.Proofs.Ytpllcaeghpijiaa.sboxConstants

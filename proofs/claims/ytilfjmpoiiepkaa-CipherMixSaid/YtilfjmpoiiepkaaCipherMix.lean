/- Package cipher's Mix is the document's, and Unmix undoes it, both ways: the statement CipherMix. No condition. -/
import Derived.Test.YtilfjmpoiiepkaaRefMix
import Derived.Test.YtilfjmpoiiepkaaMixNum
import Derived.Test.YtilfjmpoiiepkaaQuietC
import Derived.Test.YtilfjmpoiiepkaaOpen
namespace Go.Proofs.Ytilfjmpoiiepkaa.cipherMix
open Go.ChangeShapes Go.WideShapes Go.ChangeAt Go.RowKit
set_option linter.unusedVariables false

theorem own : ownKnob Try.prog.godebug = none := by kernel_rfl
/-- The example's column, and what it is mixed to. -/
def colA : Nat → Nat := fun j => if j = 0 then 219 else if j = 1 then 19 else if j = 2 then 83 else 69
def colB : Nat → Nat := fun j => if j = 0 then 142 else if j = 1 then 77 else if j = 2 then 161 else 188
theorem builtA : Try.prog.built 26 [(0, .int .u8 219), (1, .int .u8 19), (2, .int .u8 83), (3, .int .u8 69)] = some (cellsOf .u8 (mk 4 colA)) := by kernel_rfl
theorem builtB : Try.prog.built 26 [(0, .int .u8 142), (1, .int .u8 77), (2, .int .u8 161), (3, .int .u8 188)] = some (cellsOf .u8 (mk 4 colB)) := by kernel_rfl
theorem colA_word : IsWord colA := fun i _ => by unfold colA; (repeat' split) <;> omega
theorem mixAB : mk 4 (mixK colA) = mk 4 colB := by decide +kernel
attribute [local irreducible] mixK unmK mxK mul
theorem call_mix (args : Array Value) (w : World) : (callFunc 14 args).run Try.prog w = .ok (.enter 14 args) w := by simp [go_sem]
theorem call_unmix (args : Array Value) (w : World) : (callFunc 16 args).run Try.prog w = .ok (.enter 16 args) w := by simp [go_sem]
theorem call_refmix (args : Array Value) (w : World) : (callFunc 15 args).run Try.prog w = .ok (.enter 15 args) w := by simp [go_sem]

set_option maxRecDepth 100000 in
set_option maxHeartbeats 2000000 in
theorem walk (a : Nat → Nat) (ha : IsWord a) (w : World) :
    Calls Try.prog 4 #[.agg (cellsOf .u8 (mk 4 a))] w fun e w' => e = .returned (.bool true) ∧ Below w.heap.size w w' := by
  have L1 : mk 4 (unmK (mixK a)) = mk 4 a := mk_ext fun j hj => unm_mix ha hj
  have L2 : mk 4 (mixK (unmK a)) = mk 4 a := mk_ext fun j hj => mix_unm ha hj
  have ks := mixK_word ha
  have ku := unmK_word ha
  have kA := colA_word
  have H := Lib.hid (And.intro L1 L2)
  clear L1 L2
  go_enter Try.func4, Try.ntmps4
  go_wp2_with (first
    | (refine wpList_load_row rfl 26 _ rfl w.heap.size rfl 26 (cellsOf .u8 (mk 4 a)) (0, 0) _ (IntBlk.new w .u8 26 (mk 4 a)) wordUnder rfl (wordSize a) ?_)
    | fail)
  refine (Mix_any a ha _).mono ?_
  rintro e w1 ⟨rfl, hb1⟩
  go_wp2_with (first
    | (refine store_row_on rfl 26 _ _ rfl rfl w1.heap.size (cellsOf .u8 (mk 4 (mixK a))) rfl rfl 26 (cellsOf .u8 (mk 4 zeroK)) (IntBlk.new w1 .u8 26 (mk 4 zeroK)) (wordSize _) (by rw [cellsOf_size, cellsOf_size, mk_len, mk_len]) (cellsOf_one _ _) ?_)
    | fail)
  have b1 := (IntBlk.new w .u8 26 (mk 4 a)).below hb1 (by simp)
  have hs : w.heap.size < w1.heap.size := b1.lt
  have BA : IntBlk ((w1.alloc (.cells (cellsOf .u8 (mk 4 zeroK)) 26)).setRow w1.heap.size (cellsOf .u8 (mk 4 (mixK a)))) w.heap.size .u8 26 (mk 4 a) := (b1.alloc _).otherRow (by omega) _
  have BB : IntBlk ((w1.alloc (.cells (cellsOf .u8 (mk 4 zeroK)) 26)).setRow w1.heap.size (cellsOf .u8 (mk 4 (mixK a)))) w1.heap.size .u8 26 (mk 4 (mixK a)) := (IntBlk.new w1 .u8 26 (mk 4 zeroK)).setRow .u8 (mk 4 (mixK a))
  have BW : Below w.heap.size w ((w1.alloc (.cells (cellsOf .u8 (mk 4 zeroK)) 26)).setRow w1.heap.size (cellsOf .u8 (mk 4 (mixK a)))) :=
    below_setRow ((((Below.refl _ _).alloc (Nat.le_refl _) _).trans (hb1.mono (by simp))).alloc (by omega) _) (by omega) _
  clear hb1 b1
  change Code.wp _ _ _ _ ((w1.alloc (.cells (cellsOf .u8 (mk 4 zeroK)) 26)).setRow w1.heap.size (cellsOf .u8 (mk 4 (mixK a))))
  have hs2 : w1.heap.size < ((w1.alloc (.cells (cellsOf .u8 (mk 4 zeroK)) 26)).setRow w1.heap.size (cellsOf .u8 (mk 4 (mixK a)))).heap.size := BB.lt
  generalize (w1.alloc (.cells (cellsOf .u8 (mk 4 zeroK)) 26)).setRow w1.heap.size (cellsOf .u8 (mk 4 (mixK a))) = W0 at *
  have HA := Lib.hid (fun (w' : World) (h : Below W0.heap.size W0 w') => BA.below h BA.lt)
  have HB := Lib.hid (fun (w' : World) (h : Below W0.heap.size W0 w') => BB.below h BB.lt)
  have HW := Lib.hid BW
  clear BA BB BW
  refine wp_region_class (fun w' => Below W0.heap.size W0 w') (by kernel_rfl) (by kernel_rfl) ((Below.refl _ _).drew) ?_
  iterate 24 (first
    | go_big_quiet_skip
    | (go_big_quiet_want
       first
         | (go_big_quiet_op; go_big_quiet_on)
         | ((first
             | (refine quiet_word_load _ rfl w.heap.size a rfl HA.out ?_)
             | (refine quiet_word_load _ rfl w1.heap.size (mixK a) rfl HB.out ?_)
             | (refine quiet_built _ _ rfl [(0, .int .u8 219), (1, .int .u8 19), (2, .int .u8 83), (3, .int .u8 69)] rfl 4 colA builtA ?_)
             | (refine quiet_built _ _ rfl [(0, .int .u8 142), (1, .int .u8 77), (2, .int .u8 161), (3, .int .u8 188)] rfl 4 colB builtB ?_)
             | (refine quiet_pick _ _ _ rfl rfl rfl ?_)
             | (refine quiet_word _ _ _ rfl 14 rfl _ rfl _ call_mix (class_of (Mix_any _ (by assumption))) ?_)
             | (refine quiet_word _ _ _ rfl 15 rfl _ rfl _ call_refmix (class_of (refMix_any _ (by assumption))) ?_)
             | (refine quiet_word _ _ _ rfl 16 rfl _ rfl _ call_unmix (class_of (Unmix_any _ (by assumption))) ?_)
             | (refine quiet_word_eql _ _ rfl _ _ rfl rfl (by first | exact mixAB | exact H.out.1 | exact H.out.2 | rfl) ?_)); go_simp; go_big_quiet_on)))
  refine wpQuiet_nil ?_
  intro w2 hw2
  have H1 := Lib.hid (HW.out.trans (hw2.mono (by omega))); clear hw2
  go_wp2
  go_ret
  exact ⟨rfl, H1.out⟩

theorem laidOut : laidOutB Try.prog = true := by kernel_rfl
set_option maxRecDepth 100000 in
theorem lifted (os : Os) (started : os.Started) (H : Type) (enc : TypeId × Value → H) :
    ReturnsInHanded {} Try.checked os 4 .any (Rows.cipherMixSpec.pre6 enc Try.prog Try.f4 Rows.cipherMixRow.domain false) (Rows.cipherMixSpec.post enc Try.prog Try.f4 false true false false) := by
  refine returnsInHanded_of_change (C := Try.checked) own started (by kernel_rfl) Try.func4
    (ChangeSpec.witness6 (enc := enc) (C := Try.checked) false ⟨#[], #[.agg #[.int .u8 0, .int .u8 0, .int .u8 0, .int .u8 0]], []⟩ 8 (by kernel_rfl) (by kernel_rfl) (by kernel_rfl) (by kernel_rfl)) ?_
  intro W base args ds gs before hval0 hW hcnd _
  have hval : ∀ (j : Nat) t v, Try.f4.params[j]? = some t → args[j]? = some v → Value.okWide Try.prog W .any base t v := hval0
  have hW' := hW
  obtain ⟨p, q, hA0, hV, rfl, hfz, hnd⟩ := hW
  have hA : DataW.TrodAll enc Try.prog W 0 (fun _ => true) true Try.f4.params.toList args.toList ds p := hA0
  rw [Try.params4] at hA hval
  obtain ⟨v0, vs0, d0, ds0, p0, q0, hargs, rfl, rfl, h0, r0⟩ := trodAll_cons hA
  obtain ⟨rfl, rfl, rfl⟩ := trodAll_nil r0
  obtain rfl : args = #[v0] := by cases args; simp_all
  obtain ⟨rfl, rfl⟩ := trodVars_none hV
  have k0 := h0
  have lt0 : ∀ x ∈ p0, x.block < W.heap.size := by obtain ⟨m, hm⟩ := k0; exact DataW.trod_lt m _ _ _ hm
  obtain ⟨a0, w0, rfl⟩ := open_bytes Try.underlying26 Try.underlying5 (by kernel_rfl) (by kernel_rfl) (hval 0 26 v0 rfl rfl) h0
  clear hA0 hval0
  refine (walk a0 w0 W).mono fun e W' ⟨he, bel⟩ => ?_
  subst he
  exact ⟨_, rfl, _, _, _, [], _, [], hW', trodAll_mk1 (shut_bool Try.underlying4 _), (trodAll_cons_mk (Below.trod laidOut (by kernel_rfl) (of_decide_eq_true (by kernel_rfl)) k0 bel lt0) trodAll_mk0), rfl, bel.frame _, fun h => by cases h⟩

theorem over : Rows.cipherMixRow.holds Try.pinned (OpenSpec.ofChange Rows.cipherMixSpec) :=
  OpenClaim.holds_of_wide 4 Try.f4 rfl rfl rfl rfl rfl rfl rfl ⟨rfl, rfl, rfl, rfl, rfl⟩ rfl rfl rfl rfl rfl (by kernel_rfl) Try.func4 (by kernel_rfl)
    (of_decide_eq_true (by kernel_rfl)) (by unfold Func.isWrapper; first | (rw [if_pos (by decide +kernel)]; kernel_rfl) | (rw [if_neg (by decide +kernel)]; exact ⟨rfl, rfl⟩))
    (fun os started H enc _ => lifted os started H enc)

theorem proved : Rows.CipherMixSaid := over
end Go.Proofs.Ytilfjmpoiiepkaa.cipherMix

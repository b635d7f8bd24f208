/- Package cipher's Shift is the document's, and Unshift undoes it, both ways: the statement CipherShift. No condition. -/
import Derived.Test.YtilfjmpoiiepkaaRefShift
import Derived.Test.YtilfjmpoiiepkaaQuietC
import Derived.Test.YtilfjmpoiiepkaaOpen
namespace Go.Proofs.Ytilfjmpoiiepkaa.cipherShift
open Go.ChangeShapes Go.WideShapes Go.ChangeAt Go.RowKit
set_option linter.unusedVariables false

theorem own : ownKnob Try.prog.godebug = none := by kernel_rfl
/-- A key with a single 1. -/
def at5 : Nat → Nat := fun j => if j = 5 then 1 else 0
def at1 : Nat → Nat := fun j => if j = 1 then 1 else 0
theorem built5 : Try.prog.built 23 [(5, .int .u8 1)] = some (cellsOf .u8 (mk 16 at5)) := by kernel_rfl
theorem built1 : Try.prog.built 23 [(1, .int .u8 1)] = some (cellsOf .u8 (mk 16 at1)) := by kernel_rfl
theorem shift51 : mk 16 (shK at5) = mk 16 at1 := by decide +kernel
theorem call_shift (args : Array Value) (w : World) : (callFunc 11 args).run Try.prog w = .ok (.enter 11 args) w := by simp [go_sem]
theorem call_unshift (args : Array Value) (w : World) : (callFunc 13 args).run Try.prog w = .ok (.enter 13 args) w := by simp [go_sem]
theorem call_refshift (args : Array Value) (w : World) : (callFunc 12 args).run Try.prog w = .ok (.enter 12 args) w := by simp [go_sem]

set_option maxRecDepth 100000 in
set_option maxHeartbeats 2000000 in
theorem walk (a : Nat → Nat) (ha : IsKey a) (w : World) :
    Calls Try.prog 3 #[.agg (cellsOf .u8 (mk 16 a))] w fun e w' => e = .returned (.bool true) ∧ Below w.heap.size w w' := by
  have L1 : mk 16 (unK (shK a)) = mk 16 a := mk_ext fun j hj => by show a (fromN (backP j)) = a j; rw [from_back hj]
  have L2 : mk 16 (shK (unK a)) = mk 16 a := mk_ext fun j hj => by show a (backP (fromN j)) = a j; rw [back_from hj]
  have ks := shK_key ha
  have ku := unK_key ha
  have H := Lib.hid (And.intro L1 L2)
  clear L1 L2
  go_enter Try.func3, Try.ntmps3
  go_wp2_with (first
    | (refine wpList_load_row rfl 23 _ rfl w.heap.size rfl 23 (cellsOf .u8 (mk 16 a)) (0, 0) _ (IntBlk.new w .u8 23 (mk 16 a)) keyUnder rfl (keySize a) ?_)
    | fail)
  refine (Shift_any a _).mono ?_
  rintro e w1 ⟨rfl, hb1⟩
  go_wp2_with (first
    | (refine store_row_on rfl 23 _ _ rfl rfl w1.heap.size (cellsOf .u8 (mk 16 (shK a))) rfl rfl 23 (cellsOf .u8 (mk 16 zeroK)) (IntBlk.new w1 .u8 23 (mk 16 zeroK)) (keySize _) (by rw [cellsOf_size, cellsOf_size, mk_len, mk_len]) (cellsOf_one _ _) ?_)
    | fail)
  have b1 := (IntBlk.new w .u8 23 (mk 16 a)).below hb1 (by simp)
  have hs : w.heap.size < w1.heap.size := b1.lt
  have BA : IntBlk ((w1.alloc (.cells (cellsOf .u8 (mk 16 zeroK)) 23)).setRow w1.heap.size (cellsOf .u8 (mk 16 (shK a)))) w.heap.size .u8 23 (mk 16 a) := (b1.alloc _).otherRow (by omega) _
  have BB : IntBlk ((w1.alloc (.cells (cellsOf .u8 (mk 16 zeroK)) 23)).setRow w1.heap.size (cellsOf .u8 (mk 16 (shK a)))) w1.heap.size .u8 23 (mk 16 (shK a)) := (IntBlk.new w1 .u8 23 (mk 16 zeroK)).setRow .u8 (mk 16 (shK a))
  have BW : Below w.heap.size w ((w1.alloc (.cells (cellsOf .u8 (mk 16 zeroK)) 23)).setRow w1.heap.size (cellsOf .u8 (mk 16 (shK a)))) :=
    below_setRow ((((Below.refl _ _).alloc (Nat.le_refl _) _).trans (hb1.mono (by simp))).alloc (by omega) _) (by omega) _
  clear hb1 b1
  change Code.wp _ _ _ _ ((w1.alloc (.cells (cellsOf .u8 (mk 16 zeroK)) 23)).setRow w1.heap.size (cellsOf .u8 (mk 16 (shK a))))
  have hs2 : w1.heap.size < ((w1.alloc (.cells (cellsOf .u8 (mk 16 zeroK)) 23)).setRow w1.heap.size (cellsOf .u8 (mk 16 (shK a)))).heap.size := BB.lt
  generalize (w1.alloc (.cells (cellsOf .u8 (mk 16 zeroK)) 23)).setRow w1.heap.size (cellsOf .u8 (mk 16 (shK a))) = W0 at *
  have HA := Lib.hid (fun (w' : World) (h : Below W0.heap.size W0 w') => BA.below h BA.lt)
  have HB := Lib.hid (fun (w' : World) (h : Below W0.heap.size W0 w') => BB.below h BB.lt)
  have HW := Lib.hid BW
  clear BA BB BW
  refine wp_region_class (fun w' => Below W0.heap.size W0 w') (by kernel_rfl) (by kernel_rfl) ((Below.refl _ _).drew) ?_
  iterate 24 (first
    | go_big_quiet_skip
    | (go_big_quiet_want
       first
         | (go_big_quiet_op; go_big_quiet_on)
         | ((first
             | (refine quiet_load _ rfl w.heap.size a rfl HA.out ?_)
             | (refine quiet_load _ rfl w1.heap.size (shK a) rfl HB.out ?_)
             | (refine quiet_built _ _ rfl [(5, .int .u8 1)] rfl 16 at5 built5 ?_)
             | (refine quiet_built _ _ rfl [(1, .int .u8 1)] rfl 16 at1 built1 ?_)
             | (refine quiet_pick _ _ _ rfl rfl rfl ?_)
             | (refine quiet_key _ _ _ rfl 11 rfl _ rfl _ call_shift (class_of (Shift_any _)) ?_)
             | (refine quiet_key _ _ _ rfl 12 rfl _ rfl _ call_refshift (class_of (refShift_any _)) ?_)
             | (refine quiet_key _ _ _ rfl 13 rfl _ rfl _ call_unshift (class_of (Unshift_any _ (by assumption))) ?_)
             | (refine quiet_eql _ _ rfl _ _ rfl rfl (by first | exact shift51 | exact H.out.1 | exact H.out.2 | rfl) ?_)); go_simp; go_big_quiet_on)))
  refine wpQuiet_nil ?_
  intro w2 hw2
  have H1 := Lib.hid (HW.out.trans (hw2.mono (by omega))); clear hw2
  go_wp2
  go_ret
  exact ⟨rfl, H1.out⟩

theorem laidOut : laidOutB Try.prog = true := by kernel_rfl
set_option maxRecDepth 100000 in
theorem lifted (os : Os) (started : os.Started) (H : Type) (enc : TypeId × Value → H) :
    ReturnsInHanded {} Try.checked os 3 .any (Rows.cipherShiftSpec.pre6 enc Try.prog Try.f3 Rows.cipherShiftRow.domain false) (Rows.cipherShiftSpec.post enc Try.prog Try.f3 false true false false) := by
  refine returnsInHanded_of_change (C := Try.checked) own started (by kernel_rfl) Try.func3
    (ChangeSpec.witness6 (enc := enc) (C := Try.checked) false ⟨#[], #[.agg #[.int .u8 0, .int .u8 0, .int .u8 0, .int .u8 0, .int .u8 0, .int .u8 0, .int .u8 0, .int .u8 0, .int .u8 0, .int .u8 0, .int .u8 0, .int .u8 0, .int .u8 0, .int .u8 0, .int .u8 0, .int .u8 0]], []⟩ 8 (by kernel_rfl) (by kernel_rfl) (by kernel_rfl) (by kernel_rfl)) ?_
  intro W base args ds gs before hval0 hW hcnd _
  have hval : ∀ (j : Nat) t v, Try.f3.params[j]? = some t → args[j]? = some v → Value.okWide Try.prog W .any base t v := hval0
  have hW' := hW
  obtain ⟨p, q, hA0, hV, rfl, hfz, hnd⟩ := hW
  have hA : DataW.TrodAll enc Try.prog W 0 (fun _ => true) true Try.f3.params.toList args.toList ds p := hA0
  rw [Try.params3] at hA hval
  obtain ⟨v0, vs0, d0, ds0, p0, q0, hargs, rfl, rfl, h0, r0⟩ := trodAll_cons hA
  obtain ⟨rfl, rfl, rfl⟩ := trodAll_nil r0
  obtain rfl : args = #[v0] := by cases args; simp_all
  obtain ⟨rfl, rfl⟩ := trodVars_none hV
  have k0 := h0
  have lt0 : ∀ x ∈ p0, x.block < W.heap.size := by obtain ⟨m, hm⟩ := k0; exact DataW.trod_lt m _ _ _ hm
  obtain ⟨a0, w0, rfl⟩ := open_bytes Try.underlying23 Try.underlying5 (by kernel_rfl) (by kernel_rfl) (hval 0 23 v0 rfl rfl) h0
  clear hA0 hval0
  refine (walk a0 w0 W).mono fun e W' ⟨he, bel⟩ => ?_
  subst he
  exact ⟨_, rfl, _, _, _, [], _, [], hW', trodAll_mk1 (shut_bool Try.underlying4 _), (trodAll_cons_mk (Below.trod laidOut (by kernel_rfl) (of_decide_eq_true (by kernel_rfl)) k0 bel lt0) trodAll_mk0), rfl, bel.frame _, fun h => by cases h⟩

theorem over : Rows.cipherShiftRow.holds Try.pinned (OpenSpec.ofChange Rows.cipherShiftSpec) :=
  OpenClaim.holds_of_wide 3 Try.f3 rfl rfl rfl rfl rfl rfl rfl ⟨rfl, rfl, rfl, rfl, rfl⟩ rfl rfl rfl rfl rfl (by kernel_rfl) Try.func3 (by kernel_rfl)
    (of_decide_eq_true (by kernel_rfl)) (by unfold Func.isWrapper; first | (rw [if_pos (by decide +kernel)]; kernel_rfl) | (rw [if_neg (by decide +kernel)]; exact ⟨rfl, rfl⟩))
    (fun os started H enc _ => lifted os started H enc)

theorem proved : Rows.CipherShiftSaid := over
end Go.Proofs.Ytilfjmpoiiepkaa.cipherShift

/- PlatterNone: what a nil disk answers, for every two numbers and every text. No condition. -/
import Derived.Test.YtbejfpdkfpgipaaPlAlive
import Derived.Test.YtbejfpdkfpgipaaPlArgs
import Derived.Test.YtbejfpdkfpgipaaPlErr
import Derived.Test.YtbejfpdkfpgipaaPlLopen
namespace Go.Proofs.Ytbejfpdkfpgipaa.platterNone
open Go.ChangeShapes Go.WideShapes Go.ChangeAt Go.RowKit
set_option linter.unusedVariables false
theorem own : ownKnob Try.prog.godebug = none := by kernel_rfl
attribute [local irreducible] Go.Proofs.Ytbejfpdkfpgipaa.mk
set_option maxRecDepth 100000 in
theorem Write_none (w : World) (x : Int) (g : Nat → Nat) : Calls Try.prog 15 #[.pointer none, .int .i64 x, .agg (cellsOf .u8 (Go.Proofs.Ytbejfpdkfpgipaa.mk 128 g))] w fun e w' => e = .returned (.iface 52 (.int .i64 1)) ∧ Below w.heap.size w w' := by
  have HB := Lib.hid ((Below.refl _ w).alloc (Nat.le_refl _) (.cells (cellsOf .u8 (Go.Proofs.Ytbejfpdkfpgipaa.mk 128 g)) 40))
  have HH := Lib.hid (fun W => has_nil x W)
  go_enter Try.func15, Try.ntmps15
  go_wp2_with (first
    | (go_at_call 44; refine (HH.out _).mono ?_; rintro e w1 ⟨rfl, rfl⟩))
  go_ret
  exact ⟨rfl, HB.out⟩
theorem zc : Try.zeroCells40 = cellsOf .u8 (Go.Proofs.Ytbejfpdkfpgipaa.mk 128 zeroK) := by kernel_rfl
theorem Write_zero (w : World) (x : Int) : Calls Try.prog 15 #[.pointer none, .int .i64 x, .agg Try.zeroCells40] w fun e w' => e = .returned (.iface 52 (.int .i64 1)) ∧ Below w.heap.size w w' := by
  rw [zc]; exact Write_none w x zeroK
attribute [local irreducible] Try.zeroCells40
set_option maxRecDepth 100000 in
theorem isRange (w : World) : Calls Try.prog 41 #[.iface 52 (.int .i64 1)] w fun e w' => e = .returned (.bool true) ∧ w = w' := by
  go_enter Try.func41, Try.ntmps41
  go_wp2_with (first
    | (go_at_call 28; refine (Is_err 1 rfl _).mono ?_; rintro e w5 ⟨rfl, rfl⟩))
  go_ret
  exact ⟨rfl, rfl⟩
set_option maxRecDepth 100000 in
set_option maxHeartbeats 4000000 in
theorem walk (a0 a1 : Int) (q2 : Option Addr) (n2 c2 : Nat) (f2 : Nat → Nat) (h0 : (Lit.int .i64 a0).wf = true) (h1 : (Lit.int .i64 a1).wf = true) (h2 : ∀ i, i < n2 → f2 i < 256) (l2 : n2 ≤ c2) (m2 : c2 ≤ 9223372036854775807) (w : World) (y2 : BytesAt w q2 n2 f2) :
    Calls Try.prog 8 #[.int .i64 a0, .int .i64 a1, .slice q2 n2 c2] w fun e w' => e = .returned (.bool true) ∧ Below w.heap.size w w' := by
  have AL := Lib.hid (alive_ok w)
  go_enter Try.func8, Try.ntmps8
  go_wp2_with (first
    | (go_at_call 10; refine (AL.out).mono ?_; rintro e w1 ⟨rfl, hb1⟩; have B1 := Lib.hid hb1; clear hb1)
    | (go_at_call 29; refine (Crash_nil _ _ _ _).mono ?_; rintro e w2 ⟨rfl, rfl⟩)
    | (go_at_call 32; refine (Read_nil _ _).mono ?_; rintro e w2 ⟨rfl, hb2⟩; unfold errV zeroSec; have B2 := Lib.hid (B1.out.trans (((Below.refl _ _).alloc (Nat.le_refl _) _).trans (hb2.mono (by simp)) |>.mono B1.out.size)); clear hb2 B1)
    | (refine wpList_sec_alloc rfl rfl w2.heap.size rfl ?_)
    | (refine store_row_on rfl 40 _ _ rfl rfl w2.heap.size (cellsOf .u8 (Go.Proofs.Ytbejfpdkfpgipaa.mk 128 zeroK)) rfl rfl 40 (cellsOf .u8 (Go.Proofs.Ytbejfpdkfpgipaa.mk 128 zeroK)) (heap_alloc_new _ _) (secSize _) (sec_same _ _) (cellsOf_one _ _) ?_
       have B3 := Lib.hid (B2.out.trans (below_setRow (g := w2.heap.size) (((Below.refl _ w2).alloc (Nat.le_refl _) (.cells (cellsOf .u8 (Go.Proofs.Ytbejfpdkfpgipaa.mk 128 zeroK)) 40)).mono B2.out.size) B2.out.size (cellsOf .u8 (Go.Proofs.Ytbejfpdkfpgipaa.mk 128 zeroK))))
       generalize (w2.alloc (.cells (cellsOf .u8 (Go.Proofs.Ytbejfpdkfpgipaa.mk 128 zeroK)) 40)).setRow w2.heap.size (cellsOf .u8 (Go.Proofs.Ytbejfpdkfpgipaa.mk 128 zeroK)) = w3 at *
       clear B2)
    | (refine wpList_sec_build0 rfl rfl ?_)
    | (go_at_call 41; refine (isRange _).mono ?_; rintro e w5 ⟨rfl, rfl⟩)
    | (go_at_call 15; refine (Write_zero _ _).mono ?_; rintro e w4 ⟨rfl, hb4⟩; have B4 := Lib.hid (B3.out.trans (hb4.mono B3.out.size)); clear hb4 B3)
    | (go_at_call 18; refine (Flush_nil _ _ _).mono ?_; rintro e w5 ⟨rfl, hb5⟩; unfold errV; have B5 := Lib.hid (B4.out.trans (hb5.mono B4.out.size)); clear hb5 B4)
    | (go_at_call 39; refine (Counter_nil _ _).mono ?_; rintro e w2 ⟨rfl, rfl⟩; unfold errV)
    | (go_at_call 20; refine (Raise_nil _ _ _).mono ?_; rintro e w6 ⟨rfl, rfl⟩; unfold errV)
    | (go_at_call 23; refine (Tamper_nil _ _ _ _ _).mono ?_; rintro e w6 ⟨rfl, rfl⟩; unfold errV)
    | (go_at_call 27; refine (Arm_nil _ _).mono ?_; rintro e w6 ⟨rfl, rfl⟩; unfold errV)
    | (go_at_call 36; refine (open_any (.pointer none) 9 [] (by simp) _ (fun W _ => Open_nil W)).mono ?_; rintro e w7 ⟨⟨q, c, rfl, -⟩, hb7⟩; have B7 := Lib.hid (B5.out.trans (hb7.mono B5.out.size)); clear hb7 B5)
    | (go_at_call 42; refine (Size_nil _).mono ?_; rintro e w8 ⟨rfl, rfl⟩)
    | (go_at_call 34; refine (Steps_nil _).mono ?_; rintro e w8 ⟨rfl, rfl⟩)
    | (go_at_call 35; refine (Down_nil _).mono ?_; rintro e w8 ⟨rfl, rfl⟩)
    )
  go_ret
  exact ⟨rfl, B7.out⟩

theorem laidOut : laidOutB Try.prog = true := by kernel_rfl
set_option maxRecDepth 100000 in
theorem lifted (os : Os) (started : os.Started) (H : Type) (enc : TypeId × Value → H) :
    ReturnsInHanded {} Try.checked os 8 .any (Rows.platterNoneSpec.pre6 enc Try.prog Try.f8 Rows.platterNoneRow.domain false) (Rows.platterNoneSpec.post enc Try.prog Try.f8 false true false false) := by
  refine returnsInHanded_of_change (C := Try.checked) own started (by kernel_rfl) Try.func8
    (ChangeSpec.witness6 (enc := enc) (C := Try.checked) false ⟨#[], #[.int .i64 0, .int .i64 0, .slice none 0 0], []⟩ 8 (by kernel_rfl) (by kernel_rfl) (by kernel_rfl) (by kernel_rfl)) ?_
  intro W base args ds gs before hval0 hW hcnd _
  have hval : ∀ (j : Nat) t v, Try.f8.params[j]? = some t → args[j]? = some v → Value.okWide Try.prog W .any base t v := hval0
  have hW' := hW
  obtain ⟨p, q, hA0, hV, rfl, hfz, hnd⟩ := hW
  have hA : DataW.TrodAll enc Try.prog W 0 (fun _ => true) true Try.f8.params.toList args.toList ds p := hA0
  rw [Try.params8] at hA hval
  obtain ⟨v0, vs0, d0, ds0, p0, q0, hargs, rfl, rfl, h0, r0⟩ := trodAll_cons hA
  obtain ⟨v1, vs1, d1, ds1, p1, q1, rfl, rfl, rfl, h1, r1⟩ := trodAll_cons r0
  obtain ⟨v2, vs2, d2, ds2, p2, q2, rfl, rfl, rfl, h2, r2⟩ := trodAll_cons r1
  obtain ⟨rfl, rfl, rfl⟩ := trodAll_nil r2
  obtain rfl : args = #[v0, v1, v2] := by cases args; simp_all
  obtain ⟨rfl, rfl⟩ := trodVars_none hV
  obtain ⟨a0, rfl, rfl, rfl, w0⟩ := open_int Try.underlying3 (hval 0 3 v0 rfl rfl) h0
  obtain ⟨a1, rfl, rfl, rfl, w1⟩ := open_int Try.underlying3 (hval 1 3 v1 rfl rfl) h1
  have k2 := h2
  have lt2 : ∀ x ∈ p2, x.block < W.heap.size := by obtain ⟨m, hm⟩ := k2; exact DataW.trod_lt m _ _ _ hm
  obtain ⟨q2, n2, c2, a2, rfl, w2, y2, l2, m2⟩ := open_byteslice (hval 2 34 v2 rfl rfl) h2
  clear hA0 hval0
  refine (walk a0 a1 q2 n2 c2 a2 w0 w1 w2 l2 m2 W y2).mono fun e W' ⟨he, bel⟩ => ?_
  subst he
  exact ⟨_, rfl, _, _, _, [], _, [], hW', trodAll_mk1 (shut_bool Try.underlying4 _), (trodAll_cons_mk (shut_int Try.underlying3 w0) (trodAll_cons_mk (shut_int Try.underlying3 w1) (trodAll_cons_mk (Below.trod laidOut (by kernel_rfl) (of_decide_eq_true (by kernel_rfl)) k2 bel lt2) trodAll_mk0))), rfl, bel.frame _, fun h => by cases h⟩

theorem over : Rows.platterNoneRow.holds Try.pinned (OpenSpec.ofChange Rows.platterNoneSpec) :=
  OpenClaim.holds_of_wide 8 Try.f8 rfl rfl rfl rfl rfl rfl rfl ⟨rfl, rfl, rfl, rfl, rfl⟩ rfl rfl rfl rfl rfl (by kernel_rfl) Try.func8 (by kernel_rfl)
    (of_decide_eq_true (by kernel_rfl)) (by unfold Func.isWrapper; first | (rw [if_pos (by decide +kernel)]; kernel_rfl) | (rw [if_neg (by decide +kernel)]; exact ⟨rfl, rfl⟩))
    (fun os started H enc _ => lifted os started H enc)

theorem proved : Rows.PlatterNoneSaid := over
end Go.Proofs.Ytbejfpdkfpgipaa.platterNone

/- PduStatus: which status every error has, and which frames reject and reply. Condition: package pdu answers as its spec says. -/
import Derived.Test.YtebbnkkhabehmaaPdRep
import Derived.Test.YtebbnkkhabehmaaPdS4
import Derived.Test.YtebbnkkhabehmaaRows
namespace Go.Proofs.Ytebbnkkhabehmaa
open Go.ChangeShapes Go.WideShapes Go.ChangeAt Go.RowKit
namespace pduStatus
set_option linter.unusedVariables false
set_option linter.unusedSimpArgs false
attribute [local go_sem] Oper.semAt_some
set_option maxRecDepth 100000 in
set_option maxHeartbeats 4000000 in
theorem walk (PS : PduSpec) {w : World} (n cc nb : Int) (p : Option Addr) (d cd : Nat) (g : Nat → Nat) (hn : okI n) (hc : okI cc) (hnb : okI nb) (hg : ∀ i, i < d → g i < 256) (hq : BytesAt w p d g) (hdc : d ≤ cd) (hm : cd ≤ maxLen) : Calls Try.prog 6 #[.agg #[.int .i64 n, .int .i64 cc, .slice p d cd, .int .i64 nb]] w fun e w' => e = .returned (.bool true) ∧ Below w.heap.size w w' := by
  have RP := Lib.hid (fun (W : World) (hb : Below w.heap.size w W) => replies_any PS n cc nb p d cd g hn hnb hg (hq.below hb) hdc hm)
  clear hg hq hdc hm PS hn hc hnb
  go_enter Try.func6, Try.ntmps6
  go_wp2_with (first
  | (with_reducible show wpList _ _ _ (⟨some 1, Op.box 47 _, _, _, _, none⟩ :: _) _ _
     refine wpList_boxA_of rfl _ rfl #[.int .i64 n, .int .i64 cc, .slice p d cd, .int .i64 nb] rfl ?_
     intro w1 x1 l1 s1
     have P1 := Lib.hid l1
     have c0 : w1.cell? ⟨w.heap.size, 0, none⟩ = some (.int .i64 n) := x1.cell 0
     have c1 : w1.cell? ⟨w.heap.size, 1, none⟩ = some (.int .i64 cc) := x1.cell 1
     have c2 : w1.cell? ⟨w.heap.size, 2, none⟩ = some (.slice p d cd) := x1.cell 2
     have c3 : w1.cell? ⟨w.heap.size, 3, none⟩ = some (.int .i64 nb) := x1.cell 3
     clear x1 l1 s1)
  | (go_at_call 20
     refine (RP.out w1 P1.out).mono ?_; rintro e w2 ⟨rfl, l2⟩
     have P2 := Lib.hid (P1.out.trans (l2.mono P1.out.size))
     clear l2))
  go_ret
  exact ⟨rfl, P2.out⟩
theorem own : ownKnob Try.prog.godebug = none := by kernel_rfl
theorem laidOut : laidOutB Try.prog = true := by kernel_rfl
set_option maxRecDepth 100000 in
theorem lifted (os : Os) (started : os.Started) (H : Type) (enc : TypeId × Value → H) :
    ReturnsInHanded {} Try.checked os 6 .any (Rows.pduStatusSpec.pre6 enc Try.prog Try.f6 Rows.pduStatusRow.domain false) (Rows.pduStatusSpec.post enc Try.prog Try.f6 false true false false) := by
  refine returnsInHanded_of_change (C := Try.checked) own started (by kernel_rfl) Try.func6
    (ChangeSpec.witness6 (enc := enc) (C := Try.checked) false ⟨#[], #[.agg #[.int .i64 0, .int .i64 0, .slice none 0 0, .int .i64 0]], []⟩ 8 (by kernel_rfl) (by kernel_rfl) (by kernel_rfl) (by kernel_rfl)) ?_
  intro W base args ds gs before hval0 hW hcnd _
  have hval : ∀ (j : Nat) t v, Try.f6.params[j]? = some t → args[j]? = some v → Value.okWide Try.prog W .any base t v := hval0
  have hW' := hW
  obtain ⟨p, q, hA0, hV, rfl, hfz, hnd⟩ := hW
  have hA : DataW.TrodAll enc Try.prog W 0 (fun _ => true) true Try.f6.params.toList args.toList ds p := hA0
  rw [Try.params6] at hA hval
  obtain ⟨v0, vs0, d0, ds0, p0, q0, hargs, rfl, rfl, h0, r0⟩ := trodAll_cons hA
  obtain ⟨rfl, rfl, rfl⟩ := trodAll_nil r0
  obtain rfl : args = #[v0] := by cases args; simp_all
  obtain ⟨rfl, rfl⟩ := trodVars_none hV
  have k0 := h0
  have lt0 : ∀ x ∈ p0, x.block < W.heap.size := by obtain ⟨m, hm⟩ := k0; exact DataW.trod_lt m _ _ _ hm
  obtain ⟨z0, u0, x0, q0, n0, c0, a0, rfl, hz0, hu0, hx0, w0, y0, l0, m0⟩ := open_replied (hval 0 47 v0 rfl rfl) h0
  clear hA0 hval0
  refine (walk pduSpec z0 u0 x0 q0 n0 c0 a0 hz0 hu0 hx0 w0 y0 l0 m0).mono fun e W' ⟨he, bel⟩ => ?_
  subst he
  exact ⟨_, rfl, _, _, _, [], _, [], hW', trodAll_mk1 (shut_bool Try.underlying4 _), (trodAll_cons_mk (Below.trod laidOut (by kernel_rfl) (of_decide_eq_true (by kernel_rfl)) k0 bel lt0) trodAll_mk0), rfl, bel.frame _, fun h => by cases h⟩

theorem over : Rows.pduStatusRow.holds Try.pinned (OpenSpec.ofChange Rows.pduStatusSpec) :=
  OpenClaim.holds_of_wide 6 Try.f6 rfl rfl rfl rfl rfl rfl rfl ⟨rfl, rfl, rfl, rfl, rfl⟩ rfl rfl rfl rfl rfl (by kernel_rfl) Try.func6 (by kernel_rfl)
    (of_decide_eq_true (by kernel_rfl)) (by unfold Func.isWrapper; first | (rw [if_pos (by decide +kernel)]; kernel_rfl) | (rw [if_neg (by decide +kernel)]; exact ⟨rfl, rfl⟩))
    (fun os started H enc _ => lifted os started H enc)

theorem proved : Rows.PduStatusSaid := over
end pduStatus
end Go.Proofs.Ytebbnkkhabehmaa

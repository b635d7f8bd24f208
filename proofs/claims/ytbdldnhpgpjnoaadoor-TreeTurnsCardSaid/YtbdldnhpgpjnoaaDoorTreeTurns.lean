/- Which tree any tree with another leaf is, and whether that leaf is verified under any root: the statement TreeTurns, tied to the program's text. No condition. -/
import Derived.Test.YtbdldnhpgpjnoaaDoorTrTurns
import Derived.Test.YtbdldnhpgpjnoaaDoorTrFields
namespace Go.Proofs.YtbdldnhpgpjnoaaDoor.treeTurns
open Go.ChangeShapes Go.WideShapes Go.ChangeAt Go.RowKit
set_option linter.unusedVariables false
theorem own : ownKnob Tryd.prog.godebug = none := by kernel_rfl
attribute [local irreducible] sumVal sumC updC updV
set_option maxRecDepth 100000 in
set_option maxHeartbeats 4000000 in
theorem walk (q0 : Option Addr) (n0 c0 : Nat) (a0 : Nat → Nat) (q1 : Option Addr) (n1 c1 : Nat) (a1 : Nat → Nat) (z : Int) (leaf : List Int) (right : Bool) (w : World) (y0 : BytesIn w q0 n0 c0 a0) (y1 : BytesIn w q1 n1 c1 a1) (hz : (Lit.int .i64 z).wf = true) (hleaf : IsSum leaf) (hT : TabAt w) :
    Calls Tryd.prog 7 #[updV q0 n0 c0 q1 n1 c1 z leaf right] w fun e w' => e = .returned (.bool true) ∧ Below w.heap.size w w' := by
  have TA := Lib.hid (fun (V : World) (h : Below w.heap.size w V) => turns_any q0 n0 c0 a0 q1 n1 c1 a1 z leaf right hz hleaf V (hT.on h) (y0.below h) (y1.below h))
  have UV := Lib.hid (updV_is q0 n0 c0 q1 n1 c1 z leaf right)
  have UO := Lib.hid (fun (V : World) (S : Nat) h => UpdAt.of (W := V) (S := S) (q := q0) (n := n0) (c := c0) (p := q1) (m := n1) (d := c1) (z := z) (l := leaf) (b := right) h)
  clear y0 y1 hz hleaf hT
  go_enter Tryd.func7, Tryd.ntmps7
  go_wp2_with (first
    | (refine wpList_agg_box rfl _ _ rfl _ UV.out w.heap.size rfl ?_; intro w1 hc hb hs
       have U1 := Lib.hid (UO.out w1 _ hc); have B1 := Lib.hid hb
       have k0 := U1.out.k; have k1 := U1.out.t; have k2 := U1.out.i; have k3 := U1.out.b
       clear hc hb hs UO)
    | (refine wpList_sum_load rfl _ rfl w.heap.size 3 rfl leaf U1.out.l ?_)
    | (go_at_call 22; refine (TA.out w1 B1.out).mono ?_; rintro e w2 ⟨rfl, hb⟩
       have B2 := Lib.hid (B1.out.trans (hb.mono B1.out.size)); clear hb TA))
  go_ret
  exact ⟨rfl, B2.out⟩
theorem laidOut : laidOutB Tryd.prog = true := by kernel_rfl
set_option maxRecDepth 100000 in
theorem lifted (os : Os) (started : os.Started) (H : Type) (enc : TypeId × Value → H) :
    ReturnsInHanded {} Tryd.checked os 7 .any (fun w args => (Rows.treeTurnsSpec.pre enc Tryd.prog Tryd.f7 Rows.treeTurnsRow.domain false w args ∧ laidMetH Tryd.prog Rows.treeTurnsRow.laid w) ∧ sizedMet enc Tryd.prog Tryd.f7 (OpenSpec.ofChange Rows.treeTurnsSpec) false w args) (Rows.treeTurnsSpec.post enc Tryd.prog Tryd.f7 false true false false) := by
  refine returnsInHanded_of_change_and (C := Tryd.checked) (X := fun w _ => laidMetH Tryd.prog Rows.treeTurnsRow.laid w) (fun _ _ _ hh h => h.of_heap hh) own started (by kernel_rfl) Tryd.func7
    (ChangeSpec.witness_shaped (enc := enc) (C := Tryd.checked) (os := os) (X := fun w _ => laidMetH Tryd.prog Rows.treeTurnsRow.laid w) false (World.laidAll Tryd.prog os Rows.treeTurnsRow.laid) #[.agg #[.slice none 0 0, .slice none 0 0, .int .i64 0, .int .u8 0, .int .u8 0, .int .u8 0, .int .u8 0, .int .u8 0, .int .u8 0, .int .u8 0, .int .u8 0, .int .u8 0, .int .u8 0, .int .u8 0, .int .u8 0, .int .u8 0, .int .u8 0, .int .u8 0, .int .u8 0, .int .u8 0, .int .u8 0, .int .u8 0, .int .u8 0, .int .u8 0, .int .u8 0, .int .u8 0, .int .u8 0, .int .u8 0, .int .u8 0, .int .u8 0, .int .u8 0, .int .u8 0, .int .u8 0, .int .u8 0, .int .u8 0, .bool false]] 8 (World.laidAll_os _ _ _)
      (World.shaped_of_ZipB (by kernel_rfl) (by kernel_rfl)) (by kernel_rfl) (by kernel_rfl) (by kernel_rfl)
      (by rw [MakeChecks.laidMetH_plain _ _ _ (by kernel_rfl)]; exact laidMet_laidAll _ (by kernel_rfl) (by kernel_rfl))) ?_
  intro W base args ds gs before hval0 hW hcnd hsz hL _
  have hT := tab_of_laid hL
  have hval : ∀ (j : Nat) t v, Tryd.f7.params[j]? = some t → args[j]? = some v → Value.okWide Tryd.prog W .any base t v := hval0
  have hW' := hW
  obtain ⟨p, q, hA0, hV, rfl, hfz, hnd⟩ := hW
  have hA : DataW.TrodAll enc Tryd.prog W 0 (fun _ => true) true Tryd.f7.params.toList args.toList ds p := hA0
  rw [Tryd.params7] at hA hval
  obtain ⟨v0, vs0, d0, ds0, p0, q0, hargs, rfl, rfl, h0, r0⟩ := trodAll_cons hA
  obtain ⟨rfl, rfl, rfl⟩ := trodAll_nil r0
  obtain rfl : args = #[v0] := by cases args; simp_all
  obtain ⟨rfl, rfl⟩ := trodVars_none hV
  have k0 := h0
  have lt0 : ∀ x ∈ p0, x.block < W.heap.size := by obtain ⟨m, hm⟩ := k0; exact DataW.trod_lt m _ _ _ hm
  obtain ⟨q0, n0, c0, g0, r0, m0, d0, f0, z0, s0, b0, rfl, y0, x0, w0, u0⟩ := open_updated (hval 0 53 v0 rfl rfl) h0
  clear hA0 hval0
  refine (walk q0 n0 c0 g0 r0 m0 d0 f0 z0 s0 b0 W y0 x0 w0 u0 hT).mono fun e W' ⟨he, bel⟩ => ?_
  subst he
  exact ⟨_, rfl, _, _, _, [], _, [], hW', trodAll_mk1 (shut_bool Tryd.underlying4 _), (trodAll_cons_mk (Below.trod laidOut (by kernel_rfl) (of_decide_eq_true (by kernel_rfl)) k0 bel lt0) trodAll_mk0), rfl, bel.frame _, fun h => by cases h⟩

theorem over : Rows.treeTurnsRow.holds Tryd.pinned (OpenSpec.ofChange Rows.treeTurnsSpec) :=
  OpenClaim.holds_of_wide 7 Tryd.f7 rfl rfl rfl rfl rfl rfl rfl ⟨rfl, rfl, rfl, rfl, rfl⟩ rfl rfl rfl rfl rfl (by kernel_rfl) Tryd.func7 (by kernel_rfl)
    (of_decide_eq_true (by kernel_rfl)) (by unfold Func.isWrapper; first | (rw [if_pos (by decide +kernel)]; kernel_rfl) | (rw [if_neg (by decide +kernel)]; exact ⟨rfl, rfl⟩))
    (fun os started H enc _ => lifted os started H enc)

set_option maxRecDepth 100000 in
theorem proved : Rows.TreeTurnsCardSaid :=
  Claim7.holds_tied_plain_at .later [] [.data] true (true, "9cdaf957ca4f470c175790aa6dd30bf08ec4d45d6deccd3b138243499fd01b2a") true
    over (fun _ h => by cases h) (by kernel_rfl) (fun _ h => by cases h) treeTurns_row_tie rfl ⟨rfl, rfl⟩ (by kernel_rfl) rfl
    (fun f fn hf hfn => by
      obtain rfl : f = 7 := Option.some.inj ((show Tryd.prog.funcNamed "citadel/citadellaw11.TreeTurns" = some 7 by kernel_rfl).symm.trans hf) |>.symm
      obtain rfl : fn = Tryd.f7 := (Option.some.inj (Tryd.func7.symm.trans hfn)).symm
      exact ⟨by kernel_rfl, fun j t ht => by
        rw [Tryd.params7] at ht
        rcases j with _ | j
        · obtain rfl : t = 53 := by simpa using ht.symm
          exact (show Tryd.prog.wantsStandIn 53 = false by kernel_rfl)
        · simp at ht⟩)
    (by kernel_rfl)
end Go.Proofs.YtbdldnhpgpjnoaaDoor.treeTurns


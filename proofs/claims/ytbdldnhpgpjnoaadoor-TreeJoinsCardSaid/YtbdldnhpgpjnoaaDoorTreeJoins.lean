/- Which tag is over two children: the statement TreeJoins, tied to the program's text. No condition. -/
import Derived.Test.YtbdldnhpgpjnoaaDoorTrEx
import Derived.Test.YtbdldnhpgpjnoaaDoorTrSt
import Derived.Test.YtbdldnhpgpjnoaaDoorTrFields
namespace Go.Proofs.YtbdldnhpgpjnoaaDoor.treeJoins
open Go.ChangeShapes Go.WideShapes Go.ChangeAt Go.RowKit
set_option linter.unusedVariables false
theorem own : ownKnob Tryd.prog.godebug = none := by kernel_rfl
theorem one_built : Tryd.prog.built 27 [(0, .int .u8 1)] = some (cellsOf .u8 oneL) := by kernel_rfl
theorem gives_one {o : Oper} {a : Act} {C : World → Prop} {K : Act → Prop} (ho : o.op = .build 27 #[(0, .const (.int .u8 1))]) (hk : K (a.put o.dst (sumVal oneL))) : ∃ v, Gives Tryd.prog C o a v ∧ K (a.put o.dst v) :=
  gives_build_any 27 _ #[(0, .int .u8 1)] _ ho (by simp [Act.eval]) (fun w => by rw [sumVal_is oneL_sum]; exact run_build w 27 #[(0, .int .u8 1)] _ one_built) hk
attribute [local irreducible] nought sumVal sumC nodeV sameSum oneL pairC pairV
set_option maxRecDepth 100000 in
set_option maxHeartbeats 4000000 in
theorem joins_any (q0 : Option Addr) (n0 c0 : Nat) (a0 : Nat → Nat) (z : Int) (l r : List Int) (hl : IsSum l) (hr : IsSum r) (w : World) (hT : TabAt w) (y0 : BytesIn w q0 n0 c0 a0) :
    Calls Tryd.prog 14 #[.slice q0 n0 c0, .int .i64 z, sumVal l, sumVal r] w fun e w' => e = .returned (.bool true) ∧ Below w.heap.size w w' := by
  by_cases hn : n0 ≤ 1000
  · have d1 : ¬ ((1000 : Int) < (n0 : Int)) := by omega
    have HK := Lib.hid (fun (V : World) (h : Below w.heap.size w V) => (⟨y0.lt, y0.cap, (y0.below h).at', hT.on h⟩ : KeyAt V q0 n0 c0 a0))
    have N1 := Lib.hid (fun (V : World) (h : Below w.heap.size w V) => Node_any none 0 0 (fun _ => 0) (by decide) 1 nought oneL nought_sum oneL_sum V (KeyAt.none (hT.on h)))
    have N2 := Lib.hid (fun (V : World) (h : Below w.heap.size w V) => Node_any q0 n0 c0 a0 (by omega) z nought nought nought_sum nought_sum V (HK.out V h))
    have N3 := Lib.hid (fun (V : World) (h : Below w.heap.size w V) => Node_any q0 n0 c0 a0 (by omega) z l r hl hr V (HK.out V h))
    have N4 := Lib.hid (fun (V : World) (h : Below w.heap.size w V) => refJoin_any q0 n0 c0 a0 (by omega) z l r hl hr V (HK.out V h))
    have E1 := Lib.hid (same_not (nodeV_sum 0 (fun _ => 0) (IntKind.u8.wrap 1) nought oneL) nought_sum exNdNot)
    have E2 := Lib.hid (nodeV_none n0 a0 (IntKind.u8.wrap z))
    have EN := Lib.hid (sameSum_self nought)
    have E3 := Lib.hid (sameSum_self (nodeV n0 a0 (IntKind.u8.wrap z) l r))
    clear hT y0 hl hr hn
    generalize hS : w.heap.size = S at *
    have HS := Lib.hid hS
    clear hS
    go_enter Tryd.func14, Tryd.ntmps14
    go_wp2_with (first
      | (refine wpList_sum_box rfl _ rfl l rfl S HS.out ?_; intro w1 hL hb hs
         have L1 := Lib.hid hL; have B1 := Lib.hid hb; have S1 := Lib.hid hs; clear hL hb hs)
      | (refine wpList_sum_box rfl _ rfl r rfl (S + 1) S1.out ?_; intro w2 hR hb hs
         have L2 := Lib.hid (L1.out.belowM hb (by omega)); have R2 := Lib.hid hR; have B2 := Lib.hid (B1.out.trans (hb.mono (by omega))); have S2 := Lib.hid hs; clear hR hb hs L1 B1)
      | (refine wpList_sum_build0 rfl rfl ?_)
      | (refine wpList_sum_alloc rfl rfl (S + 1 + 1) S2.out ?_; intro w3 hD hb hs
         have L3 := Lib.hid (L2.out.belowM hb (by omega)); have R3 := Lib.hid (R2.out.belowM hb (by omega)); have D3 := Lib.hid hD; have B3 := Lib.hid (B2.out.trans (hb.mono (by omega))); have S3 := Lib.hid hs; clear hD hb hs L2 R2 B2)
      | (refine wpList_sum_store rfl _ _ rfl rfl (S + 1 + 1) 0 rfl nought rfl [nought] D3.out (by simp) ?_; intro w4 hD hb hs
         have L4 := Lib.hid (L3.out.but hb (by omega)); have R4 := Lib.hid (R3.out.but hb (by omega)); have D4 := Lib.hid (show SumsB w4 (S + 1 + 1) [nought] from hD); have B4 := Lib.hid (B3.out.trans (hb.below (M := S) (by omega) (by rw [S3.out]; omega))); clear hD hb hs L3 R3 D3 B3))
    have dr : Below w4.heap.size w4 w4.drew := (Below.refl _ _).drew
    have L5 := Lib.hid (L4.out.below dr); have R5 := Lib.hid (R4.out.below dr); have D5 := Lib.hid (D4.out.below dr); have B5 := Lib.hid (B4.out.drew)
    clear dr L4 R4 D4
    refine wp_region_sched [(0, true), (1, true), (3, true), (2, false), (4, true), (5, true), (6, true), (7, true), (8, true), (9, true), (11, true), (10, false), (12, true), (13, true), (14, true), (15, true), (16, true), (17, true), (18, true), (20, true), (21, true), (22, true), (23, true), (19, false), (24, false), (25, true), (26, true), (27, true)] (fun W => SumsB W S [l] ∧ SumsB W (S + 1) [r] ∧ SumsB W (S + 1 + 1) [nought]) (by kernel_rfl) (by kernel_rfl) (⟨L5.out, R5.out, D5.out⟩) ?_
    refine walk_float rfl rfl (fun K' hK => ?_)
    refine gives_sum_mid _ rfl (S + 1 + 1) 0 rfl nought (fun W h => h.2.2.one) ?_
    go_simp
    refine hK _ ?_
    clear hK K'
    refine walk_float rfl rfl (fun K' hK => ?_)
    refine gives_one rfl ?_
    go_simp
    refine hK _ ?_
    clear hK K'
    refine walk_float rfl rfl (fun K' hK => ?_)
    refine gives_sum_mid _ rfl (S + 1 + 1) 0 rfl nought (fun W h => h.2.2.one) ?_
    go_simp
    refine hK _ ?_
    clear hK K'
    refine walk_done rfl rfl (fun K' hK => ?_)
    refine done_four _ _ _ _ _ _ rfl 28 rfl (.slice none 0 0) (.int .i64 1) (sumVal nought) (sumVal oneL) rfl rfl rfl rfl (fun _ w => by simp [go_sem]) ((N1.out w4.drew B5.out).mono ?_)
    rintro e w6 ⟨rfl, hb⟩
    have L6 := Lib.hid (L5.out.below hb); have R6 := Lib.hid (R5.out.below hb); have D6 := Lib.hid (D5.out.below hb); have B6 := Lib.hid (B5.out.trans (hb.mono (HS.out ▸ B5.out.size))); clear hb L5 R5 D5 B5
    refine ⟨_, rfl, ⟨L6.out, R6.out, D6.out⟩, ?_⟩
    go_simp
    refine hK _ _ ?_
    clear hK K'
    refine walk_float rfl rfl (fun K' hK => ?_)
    refine gives_sum_neq2 _ _ rfl _ nought rfl rfl true (by rw [E1.out]; rfl) ?_
    go_simp
    refine hK _ ?_
    clear hK K'
    refine walk_float rfl rfl (fun K' hK => ?_)
    refine gives_move _ rfl ?_
    go_simp
    refine hK _ ?_
    clear hK K'
    refine walk_float rfl rfl (fun K' hK => ?_)
    refine gives_move _ rfl ?_
    go_simp
    refine hK _ ?_
    clear hK K'
    refine walk_float rfl rfl (fun K' hK => ?_)
    refine gives_move _ rfl ?_
    go_simp
    refine hK _ ?_
    clear hK K'
    refine walk_float rfl rfl (fun K' hK => ?_)
    refine gives_sum_mid _ rfl (S + 1 + 1) 0 rfl nought (fun W h => h.2.2.one) ?_
    go_simp
    refine hK _ ?_
    clear hK K'
    refine walk_float rfl rfl (fun K' hK => ?_)
    refine gives_sum_mid _ rfl (S + 1 + 1) 0 rfl nought (fun W h => h.2.2.one) ?_
    go_simp
    refine hK _ ?_
    clear hK K'
    refine walk_float rfl rfl (fun K' hK => ?_)
    refine gives_sum_mid _ rfl (S + 1 + 1) 0 rfl nought (fun W h => h.2.2.one) ?_
    go_simp
    refine hK _ ?_
    clear hK K'
    refine walk_done rfl rfl (fun K' hK => ?_)
    refine done_four _ _ _ _ _ _ rfl 28 rfl (.slice q0 n0 c0) (.int .i64 z) (sumVal nought) (sumVal nought) rfl rfl rfl rfl (fun _ w => by simp [go_sem]) ((N2.out w6 B6.out).mono ?_)
    rintro e w7 ⟨rfl, hb⟩
    have L7 := Lib.hid (L6.out.below hb); have R7 := Lib.hid (R6.out.below hb); have D7 := Lib.hid (D6.out.below hb); have B7 := Lib.hid (B6.out.trans (hb.mono (HS.out ▸ B6.out.size))); clear hb L6 R6 D6 B6
    refine ⟨_, rfl, ⟨L7.out, R7.out, D7.out⟩, ?_⟩
    go_simp
    refine hK _ _ ?_
    clear hK K'
    refine walk_float rfl rfl (fun K' hK => ?_)
    refine gives_sum_eql2 _ _ rfl (nodeV n0 a0 (IntKind.u8.wrap z) nought nought) nought rfl rfl true (by rw [E2.out]; exact EN.out) ?_
    go_simp
    refine hK _ ?_
    clear hK K'
    refine walk_float rfl rfl (fun K' hK => ?_)
    refine gives_pickT _ _ _ rfl rfl (.bool true) rfl ?_
    go_simp
    refine hK _ ?_
    clear hK K'
    refine walk_float rfl rfl (fun K' hK => ?_)
    refine gives_move _ rfl ?_
    go_simp
    refine hK _ ?_
    clear hK K'
    refine walk_float rfl rfl (fun K' hK => ?_)
    refine gives_move _ rfl ?_
    go_simp
    refine hK _ ?_
    clear hK K'
    refine walk_float rfl rfl (fun K' hK => ?_)
    refine gives_move _ rfl ?_
    go_simp
    refine hK _ ?_
    clear hK K'
    refine walk_float rfl rfl (fun K' hK => ?_)
    refine gives_sum_mid _ rfl S 0 rfl l (fun W h => h.1.one) ?_
    go_simp
    refine hK _ ?_
    clear hK K'
    refine walk_float rfl rfl (fun K' hK => ?_)
    refine gives_sum_mid _ rfl (S + 1) 0 rfl r (fun W h => h.2.1.one) ?_
    go_simp
    refine hK _ ?_
    clear hK K'
    refine walk_float rfl rfl (fun K' hK => ?_)
    refine gives_move _ rfl ?_
    go_simp
    refine hK _ ?_
    clear hK K'
    refine walk_float rfl rfl (fun K' hK => ?_)
    refine gives_move _ rfl ?_
    go_simp
    refine hK _ ?_
    clear hK K'
    refine walk_float rfl rfl (fun K' hK => ?_)
    refine gives_sum_mid _ rfl S 0 rfl l (fun W h => h.1.one) ?_
    go_simp
    refine hK _ ?_
    clear hK K'
    refine walk_float rfl rfl (fun K' hK => ?_)
    refine gives_sum_mid _ rfl (S + 1) 0 rfl r (fun W h => h.2.1.one) ?_
    go_simp
    refine hK _ ?_
    clear hK K'
    refine walk_done rfl rfl (fun K' hK => ?_)
    refine done_four _ _ _ _ _ _ rfl 28 rfl (.slice q0 n0 c0) (.int .i64 z) (sumVal l) (sumVal r) rfl rfl rfl rfl (fun _ w => by simp [go_sem]) ((N3.out w7 B7.out).mono ?_)
    rintro e w8 ⟨rfl, hb⟩
    have L8 := Lib.hid (L7.out.below hb); have R8 := Lib.hid (R7.out.below hb); have D8 := Lib.hid (D7.out.below hb); have B8 := Lib.hid (B7.out.trans (hb.mono (HS.out ▸ B7.out.size))); clear hb L7 R7 D7 B7
    refine ⟨_, rfl, ⟨L8.out, R8.out, D8.out⟩, ?_⟩
    go_simp
    refine hK _ _ ?_
    clear hK K'
    refine walk_done rfl rfl (fun K' hK => ?_)
    refine done_four _ _ _ _ _ _ rfl 29 rfl (.slice q0 n0 c0) (.int .i64 z) (sumVal l) (sumVal r) rfl rfl rfl rfl (fun _ w => by simp [go_sem]) ((N4.out w8 B8.out).mono ?_)
    rintro e w9 ⟨rfl, hb⟩
    have L9 := Lib.hid (L8.out.below hb); have R9 := Lib.hid (R8.out.below hb); have D9 := Lib.hid (D8.out.below hb); have B9 := Lib.hid (B8.out.trans (hb.mono (HS.out ▸ B8.out.size))); clear hb L8 R8 D8 B8
    refine ⟨_, rfl, ⟨L9.out, R9.out, D9.out⟩, ?_⟩
    go_simp
    refine hK _ _ ?_
    clear hK K'
    refine walk_float rfl rfl (fun K' hK => ?_)
    refine gives_sum_eql2 _ _ rfl _ _ rfl rfl true E3.out ?_
    go_simp
    refine hK _ ?_
    clear hK K'
    refine walk_float rfl rfl (fun K' hK => ?_)
    refine gives_pickT _ _ _ rfl rfl (.bool true) rfl ?_
    go_simp
    refine hK _ ?_
    clear hK K'
    refine walk_float rfl rfl (fun K' hK => ?_)
    refine gives_assign _ rfl ?_
    go_simp
    refine hK _ ?_
    clear hK K'
    refine walk_nil ?_
    go_wp2
    go_ret
    exact ⟨rfl, HS.out ▸ B9.out⟩
  · have d1 : (1000 : Int) < (n0 : Int) := by omega
    have d2 : decide (1000 < n0) = true := decide_eq_true (by omega)
    clear y0 hT hl hr
    go_enter Tryd.func14, Tryd.ntmps14
    go_wp2_with (first
      | (refine wpList_sum_box rfl _ rfl l rfl w.heap.size rfl ?_; intro w1 hL hb hs
         have B1 := Lib.hid hb; have S1 := Lib.hid hs; clear hL hb hs)
      | (refine wpList_sum_box rfl _ rfl r rfl (w.heap.size + 1) S1.out ?_; intro w2 hR hb hs
         have B2 := Lib.hid (B1.out.trans (hb.mono (by omega))); clear hR hb hs))
    go_ret
    exact ⟨rfl, B2.out⟩
set_option maxRecDepth 100000 in
set_option maxHeartbeats 4000000 in
theorem walk (q0 : Option Addr) (n0 c0 : Nat) (a0 : Nat → Nat) (z : Int) (l r : List Int) (w : World) (y0 : BytesIn w q0 n0 c0 a0) (hz : (Lit.int .i64 z).wf = true) (hl : IsSum l) (hr : IsSum r) (hT : TabAt w) :
    Calls Tryd.prog 4 #[pairV q0 n0 c0 z l r] w fun e w' => e = .returned (.bool true) ∧ Below w.heap.size w w' := by
  have TA := Lib.hid (fun (V : World) (h : Below w.heap.size w V) => joins_any q0 n0 c0 a0 z l r hl hr V (hT.on h) (y0.below h))
  have UV := Lib.hid (pairV_is q0 n0 c0 z l r)
  have UO := Lib.hid (fun (V : World) (S : Nat) h => PairAt.of (W := V) (S := S) (q := q0) (n := n0) (c := c0) (z := z) (l := l) (r := r) h)
  clear y0 hz hl hr hT
  go_enter Tryd.func4, Tryd.ntmps4
  go_wp2_with (first
    | (refine wpList_agg_box rfl _ _ rfl _ UV.out w.heap.size rfl ?_; intro w1 hc hb hs
       have U1 := Lib.hid (UO.out w1 _ hc); have B1 := Lib.hid hb
       have k0 := U1.out.k; have k1 := U1.out.i
       clear hc hb hs UO)
    | (refine wpList_sum_load rfl _ rfl w.heap.size 2 rfl l U1.out.l ?_)
    | (refine wpList_sum_load rfl _ rfl w.heap.size 34 rfl r U1.out.r ?_)
    | (go_at_call 14; refine (TA.out w1 B1.out).mono ?_; rintro e w2 ⟨rfl, hb⟩
       have B2 := Lib.hid (B1.out.trans (hb.mono B1.out.size)); clear hb TA))
  go_ret
  exact ⟨rfl, B2.out⟩

theorem laidOut : laidOutB Tryd.prog = true := by kernel_rfl
set_option maxRecDepth 100000 in
theorem lifted (os : Os) (started : os.Started) (H : Type) (enc : TypeId × Value → H) :
    ReturnsInHanded {} Tryd.checked os 4 .any (fun w args => (Rows.treeJoinsSpec.pre enc Tryd.prog Tryd.f4 Rows.treeJoinsRow.domain false w args ∧ laidMetH Tryd.prog Rows.treeJoinsRow.laid w) ∧ sizedMet enc Tryd.prog Tryd.f4 (OpenSpec.ofChange Rows.treeJoinsSpec) false w args) (Rows.treeJoinsSpec.post enc Tryd.prog Tryd.f4 false true false false) := by
  refine returnsInHanded_of_change_and (C := Tryd.checked) (X := fun w _ => laidMetH Tryd.prog Rows.treeJoinsRow.laid w) (fun _ _ _ hh h => h.of_heap hh) own started (by kernel_rfl) Tryd.func4
    (ChangeSpec.witness_shaped (enc := enc) (C := Tryd.checked) (os := os) (X := fun w _ => laidMetH Tryd.prog Rows.treeJoinsRow.laid w) false (World.laidAll Tryd.prog os Rows.treeJoinsRow.laid) #[.agg #[.slice none 0 0, .int .i64 0, .int .u8 0, .int .u8 0, .int .u8 0, .int .u8 0, .int .u8 0, .int .u8 0, .int .u8 0, .int .u8 0, .int .u8 0, .int .u8 0, .int .u8 0, .int .u8 0, .int .u8 0, .int .u8 0, .int .u8 0, .int .u8 0, .int .u8 0, .int .u8 0, .int .u8 0, .int .u8 0, .int .u8 0, .int .u8 0, .int .u8 0, .int .u8 0, .int .u8 0, .int .u8 0, .int .u8 0, .int .u8 0, .int .u8 0, .int .u8 0, .int .u8 0, .int .u8 0, .int .u8 0, .int .u8 0, .int .u8 0, .int .u8 0, .int .u8 0, .int .u8 0, .int .u8 0, .int .u8 0, .int .u8 0, .int .u8 0, .int .u8 0, .int .u8 0, .int .u8 0, .int .u8 0, .int .u8 0, .int .u8 0, .int .u8 0, .int .u8 0, .int .u8 0, .int .u8 0, .int .u8 0, .int .u8 0, .int .u8 0, .int .u8 0, .int .u8 0, .int .u8 0, .int .u8 0, .int .u8 0, .int .u8 0, .int .u8 0, .int .u8 0, .int .u8 0]] 8 (World.laidAll_os _ _ _)
      (World.shaped_of_ZipB (by kernel_rfl) (by kernel_rfl)) (by kernel_rfl) (by kernel_rfl) (by kernel_rfl)
      (by rw [MakeChecks.laidMetH_plain _ _ _ (by kernel_rfl)]; exact laidMet_laidAll _ (by kernel_rfl) (by kernel_rfl))) ?_
  intro W base args ds gs before hval0 hW hcnd hsz hL _
  have hT := tab_of_laid hL
  have hval : ∀ (j : Nat) t v, Tryd.f4.params[j]? = some t → args[j]? = some v → Value.okWide Tryd.prog W .any base t v := hval0
  have hW' := hW
  obtain ⟨p, q, hA0, hV, rfl, hfz, hnd⟩ := hW
  have hA : DataW.TrodAll enc Tryd.prog W 0 (fun _ => true) true Tryd.f4.params.toList args.toList ds p := hA0
  rw [Tryd.params4] at hA hval
  obtain ⟨v0, vs0, d0, ds0, p0, q0, hargs, rfl, rfl, h0, r0⟩ := trodAll_cons hA
  obtain ⟨rfl, rfl, rfl⟩ := trodAll_nil r0
  obtain rfl : args = #[v0] := by cases args; simp_all
  obtain ⟨rfl, rfl⟩ := trodVars_none hV
  have k0 := h0
  have lt0 : ∀ x ∈ p0, x.block < W.heap.size := by obtain ⟨m, hm⟩ := k0; exact DataW.trod_lt m _ _ _ hm
  obtain ⟨q0, n0, c0, g0, z0, s0, t0, rfl, y0, w0, u0, x0⟩ := open_pair (hval 0 31 v0 rfl rfl) h0
  clear hA0 hval0
  refine (walk q0 n0 c0 g0 z0 s0 t0 W y0 w0 u0 x0 hT).mono fun e W' ⟨he, bel⟩ => ?_
  subst he
  exact ⟨_, rfl, _, _, _, [], _, [], hW', trodAll_mk1 (shut_bool Tryd.underlying4 _), (trodAll_cons_mk (Below.trod laidOut (by kernel_rfl) (of_decide_eq_true (by kernel_rfl)) k0 bel lt0) trodAll_mk0), rfl, bel.frame _, fun h => by cases h⟩

theorem over : Rows.treeJoinsRow.holds Tryd.pinned (OpenSpec.ofChange Rows.treeJoinsSpec) :=
  OpenClaim.holds_of_wide 4 Tryd.f4 rfl rfl rfl rfl rfl rfl rfl ⟨rfl, rfl, rfl, rfl, rfl⟩ rfl rfl rfl rfl rfl (by kernel_rfl) Tryd.func4 (by kernel_rfl)
    (of_decide_eq_true (by kernel_rfl)) (by unfold Func.isWrapper; first | (rw [if_pos (by decide +kernel)]; kernel_rfl) | (rw [if_neg (by decide +kernel)]; exact ⟨rfl, rfl⟩))
    (fun os started H enc _ => lifted os started H enc)

set_option maxRecDepth 100000 in
theorem proved : Rows.TreeJoinsCardSaid :=
  Claim7.holds_tied_plain_at .later [] [.data] true (true, "9cdaf957ca4f470c175790aa6dd30bf08ec4d45d6deccd3b138243499fd01b2a") true
    over (fun _ h => by cases h) (by kernel_rfl) (fun _ h => by cases h) treeJoins_row_tie rfl ⟨rfl, rfl⟩ (by kernel_rfl) rfl
    (fun f fn hf hfn => by
      obtain rfl : f = 4 := Option.some.inj ((show Tryd.prog.funcNamed "citadel/citadellaw11.TreeJoins" = some 4 by kernel_rfl).symm.trans hf) |>.symm
      obtain rfl : fn = Tryd.f4 := (Option.some.inj (Tryd.func4.symm.trans hfn)).symm
      exact ⟨by kernel_rfl, fun j t ht => by
        rw [Tryd.params4] at ht
        rcases j with _ | j
        · obtain rfl : t = 31 := by simpa using ht.symm
          exact (show Tryd.prog.wantsStandIn 31 = false by kernel_rfl)
        · simp at ht⟩)
    (by kernel_rfl)
end Go.Proofs.YtbdldnhpgpjnoaaDoor.treeJoins


/- Which leaf a block's bytes have: the statement TreeLeaf, tied to the program's text. No condition. -/
import Derived.Test.YtbdldnhpgpjnoaaDoorTrLeaf
import Derived.Test.YtbdldnhpgpjnoaaDoorTrEx
import Derived.Test.YtbdldnhpgpjnoaaDoorPlCell
import Derived.Test.YtbdldnhpgpjnoaaDoorTrSame
namespace Go.Proofs.YtbdldnhpgpjnoaaDoor.treeLeaf
open Go.ChangeShapes Go.WideShapes Go.ChangeAt Go.RowKit
set_option linter.unusedVariables false
theorem own : ownKnob Tryd.prog.godebug = none := by kernel_rfl
theorem cell_store {ops : Array Oper} {rest : List Oper} {o : Oper} {a : Act} {w : World} {Q : Exit → Act → World → Prop} (hgd : o.guard = none) (x y : Operand) (ho : o.op = .store 24 x y) (hd : o.dst = none) (B : Nat) (f f0 : Nat → Nat) (hx : a.eval x = .pointer (some ⟨B, 0, none⟩)) (hy : a.eval y = .agg (cellsOf .u8 (mk 128 f))) (hB : IntBlk w B .u8 24 (mk 128 f0))
    (h : ∀ w', IntBlk w' B .u8 24 (mk 128 f) → But B w w' → w'.heap.size = w.heap.size → wpList Tryd.prog ops Q rest a w') : wpList Tryd.prog ops Q (o :: rest) a w :=
  store_row_on hgd 24 x y ho hd B (cellsOf .u8 (mk 128 f)) hx hy 24 (cellsOf .u8 (mk 128 f0)) hB (secSize f) (by rw [cellsOf_size, cellsOf_size, mk_len, mk_len]) (cellsOf_one _ _) (h _ (hB.setRow .u8 _) (But.setRow B w _) (by simp))
attribute [local irreducible] nought sumVal sumC tauK leafText sameSum cellF
set_option maxRecDepth 100000 in
set_option maxHeartbeats 4000000 in
theorem walk (q0 : Option Addr) (n0 c0 : Nat) (a0 : Nat → Nat) (a1 : Int) (q2 : Option Addr) (n2 c2 : Nat) (a2 : Nat → Nat) (w0 : ∀ i, i < n0 → a0 i < 256) (l0 : n0 ≤ c0) (m0 : c0 ≤ maxLen) (w1 : (Lit.int .i64 a1).wf = true) (w2 : ∀ i, i < n2 → a2 i < 256) (l2 : n2 ≤ c2) (m2 : c2 ≤ maxLen) (w : World) (hT : TabAt w) (y0 : BytesAt w q0 n0 a0) (y2 : BytesAt w q2 n2 a2) :
    Calls Tryd.prog 3 #[.slice q0 n0 c0, .int .i64 a1, .slice q2 n2 c2] w fun e w' => e = .returned (.bool true) ∧ Below w.heap.size w w' := by
  clear m0 m2 w1
  by_cases hn : n0 ≤ 1000
  · have d1 : ¬ ((1000 : Int) < (n0 : Int)) := by omega
    have CC := Lib.hid (Cell_any q2 n2 c2 a2 w y2)
    have hf : ∀ i, i < 128 → cellF n2 a2 i < 256 := fun i _ => by
      unfold cellF
      split
      · omega
      · exact w2 _ (Nat.mod_lt _ (by omega))
    have HK := Lib.hid (fun (V : World) (h : Below w.heap.size w V) => (⟨w0, l0, y0.below h, hT.on h⟩ : KeyAt V q0 n0 c0 a0))
    have LA := Lib.hid (fun (V : World) (h : Below w.heap.size w V) => Leaf_any q0 n0 c0 a0 (by omega) a1 (cellF n2 a2) hf V (HK.out V h))
    have RA := Lib.hid (fun (V : World) (h : Below w.heap.size w V) => refLeaf_any q0 n0 c0 a0 (by omega) a1 (cellF n2 a2) hf V (HK.out V h))
    have LN := Lib.hid (fun (V : World) (h : Below w.heap.size w V) => Leaf_any none 0 0 (fun _ => 0) (by decide) 0 zeroK (fun i _ => by unfold zeroK; omega) V (KeyAt.none (hT.on h)))
    have NE := Lib.hid (same_not (tauK_sum 0 (fun _ => 0) _) nought_sum exLfNot)
    have SE := Lib.hid (sameSum_self (tauK n0 a0 (leafText (IntKind.u8.wrap a1) (mk 128 (cellF n2 a2)))))
    clear w0 l0 hT y0 y2 w2 l2 hf hn
    go_enter Tryd.func3, Tryd.ntmps3
    go_wp2_with (first
      | (go_at_call 11; refine CC.out.mono ?_; rintro e w1 ⟨rfl, hb⟩; have B1 := Lib.hid hb; clear hb CC)
      | (refine wpList_sec_alloc rfl rfl w1.heap.size rfl ?_
         have I2 := Lib.hid (IntBlk.new w1 .u8 24 (mk 128 zeroK)); have B2 := Lib.hid (B1.out.trans (((Below.refl _ w1).alloc (Nat.le_refl _) (.cells (cellsOf .u8 (mk 128 zeroK)) 24)).mono B1.out.size)); have S2 := Lib.hid (show (w1.alloc (.cells (cellsOf .u8 (mk 128 zeroK)) 24)).heap.size = w1.heap.size + 1 from World.size_alloc _ _)
         generalize w1.alloc (.cells (cellsOf .u8 (mk 128 zeroK)) 24) = w2 at *)
      | (refine cell_store rfl _ _ rfl rfl w1.heap.size (cellF n2 a2) zeroK rfl rfl I2.out ?_; intro w3 hI hb hs
         have I3 := Lib.hid hI; have B3 := Lib.hid (B2.out.trans (hb.below (M := w.heap.size) B1.out.size B2.out.size)); clear hI hb hs I2 B2))
    generalize w1.heap.size = X at *
    have dr : Below w3.heap.size w3 w3.drew := (Below.refl _ w3).drew
    have B4 := Lib.hid (show Below w.heap.size w w3.drew from B3.out.drew)
    have I4 := Lib.hid (I3.out.below dr I3.out.lt)
    clear dr
    refine wp_region_sched [(0, true), (2, true), (1, false), (3, true), (4, true), (5, true), (6, true), (7, true), (9, true), (10, true), (11, true), (8, false), (12, false), (13, true), (14, true), (15, true)] (fun W => IntBlk W X .u8 24 (mk 128 (cellF n2 a2))) (by kernel_rfl) (by kernel_rfl) (I4.out) ?_
    refine walk_float rfl rfl (fun K' hK => ?_)
    refine gives_build_any 24 #[] #[] _ rfl (by simp) (fun w => run_build w 24 #[] _ sec_built0) ?_
    go_simp
    refine hK _ ?_
    clear hK K'
    refine walk_float rfl rfl (fun K' hK => ?_)
    refine gives_sum_build0 rfl ?_
    go_simp
    refine hK _ ?_
    clear hK K'
    refine walk_done rfl rfl (fun K' hK => ?_)
    refine done_three _ _ _ _ _ rfl 12 rfl (.slice none 0 0) (.int .i64 0) (.agg (cellsOf .u8 (mk 128 zeroK))) rfl rfl rfl (fun _ w => by simp [go_sem]) ((LN.out w3.drew B4.out).mono ?_)
    rintro e w5 ⟨rfl, hb⟩
    have I5 := Lib.hid (I4.out.below hb I4.out.lt); have B5 := Lib.hid (B4.out.trans (hb.mono B4.out.size)); clear hb I4 B4
    refine ⟨_, rfl, I5.out, ?_⟩
    go_simp
    refine hK _ _ ?_
    clear hK K'
    refine walk_float rfl rfl (fun K' hK => ?_)
    refine gives_sum_neq2 _ _ rfl _ nought rfl rfl true (by rw [NE.out]; rfl) ?_
    go_simp
    refine hK _ ?_
    clear hK K'
    refine walk_float rfl rfl (fun K' hK => ?_)
    refine gives_move _ rfl ?_
    go_simp
    refine hK _ ?_
    clear hK K'
    refine walk_float rfl rfl (fun K' hK => ?_)
    refine gives_move _ rfl ?_
    go_simp
    refine hK _ ?_
    clear hK K'
    refine walk_float rfl rfl (fun K' hK => ?_)
    refine gives_move _ rfl ?_
    go_simp
    refine hK _ ?_
    clear hK K'
    refine walk_float rfl rfl (fun K' hK => ?_)
    refine gives_row 24 _ rfl X .u8 (mk 128 (cellF n2 a2)) rfl 128 5 secUnder (secSize _) (fun _ h => h) ?_
    go_simp
    refine hK _ ?_
    clear hK K'
    refine walk_float rfl rfl (fun K' hK => ?_)
    refine gives_move _ rfl ?_
    go_simp
    refine hK _ ?_
    clear hK K'
    refine walk_float rfl rfl (fun K' hK => ?_)
    refine gives_move _ rfl ?_
    go_simp
    refine hK _ ?_
    clear hK K'
    refine walk_float rfl rfl (fun K' hK => ?_)
    refine gives_row 24 _ rfl X .u8 (mk 128 (cellF n2 a2)) rfl 128 5 secUnder (secSize _) (fun _ h => h) ?_
    go_simp
    refine hK _ ?_
    clear hK K'
    refine walk_done rfl rfl (fun K' hK => ?_)
    refine done_three _ _ _ _ _ rfl 12 rfl (.slice q0 n0 c0) (.int .i64 a1) (.agg (cellsOf .u8 (mk 128 (cellF n2 a2)))) rfl rfl rfl (fun _ w => by simp [go_sem]) ((LA.out w5 B5.out).mono ?_)
    rintro e w6 ⟨rfl, hb⟩
    have I6 := Lib.hid (I5.out.below hb I5.out.lt); have B6 := Lib.hid (B5.out.trans (hb.mono B5.out.size)); clear hb I5 B5
    refine ⟨_, rfl, I6.out, ?_⟩
    go_simp
    refine hK _ _ ?_
    clear hK K'
    refine walk_done rfl rfl (fun K' hK => ?_)
    refine done_three _ _ _ _ _ rfl 13 rfl (.slice q0 n0 c0) (.int .i64 a1) (.agg (cellsOf .u8 (mk 128 (cellF n2 a2)))) rfl rfl rfl (fun _ w => by simp [go_sem]) ((RA.out w6 B6.out).mono ?_)
    rintro e w7 ⟨rfl, hb⟩
    have I7 := Lib.hid (I6.out.below hb I6.out.lt); have B7 := Lib.hid (B6.out.trans (hb.mono B6.out.size)); clear hb I6 B6
    refine ⟨_, rfl, I7.out, ?_⟩
    go_simp
    refine hK _ _ ?_
    clear hK K'
    refine walk_float rfl rfl (fun K' hK => ?_)
    refine gives_sum_eql2 _ _ rfl _ _ rfl rfl true SE.out ?_
    go_simp
    refine hK _ ?_
    clear hK K'
    refine walk_float rfl rfl (fun K' hK => ?_)
    refine gives_pickT _ _ _ rfl rfl (.bool true) rfl ?_
    go_simp
    refine hK _ ?_
    clear hK K'
    refine walk_float rfl rfl (fun K' hK => ?_)
    refine gives_assign _ rfl ?_
    go_simp
    refine hK _ ?_
    clear hK K'
    refine walk_nil ?_
    go_wp2
    go_ret
    exact ⟨rfl, B7.out⟩
  · have d1 : (1000 : Int) < (n0 : Int) := by omega
    have d2 : decide (1000 < n0) = true := decide_eq_true (by omega)
    clear y0 y2 hT w0 w2
    go_enter Tryd.func3, Tryd.ntmps3
    go_wp2
    go_ret
    exact ⟨rfl, Below.refl _ _⟩

theorem laidOut : laidOutB Tryd.prog = true := by kernel_rfl
set_option maxRecDepth 100000 in
theorem lifted (os : Os) (started : os.Started) (H : Type) (enc : TypeId × Value → H) :
    ReturnsInHanded {} Tryd.checked os 3 .any (fun w args => (Rows.treeLeafSpec.pre enc Tryd.prog Tryd.f3 Rows.treeLeafRow.domain false w args ∧ laidMetH Tryd.prog Rows.treeLeafRow.laid w) ∧ sizedMet enc Tryd.prog Tryd.f3 (OpenSpec.ofChange Rows.treeLeafSpec) false w args) (Rows.treeLeafSpec.post enc Tryd.prog Tryd.f3 false true false false) := by
  refine returnsInHanded_of_change_and (C := Tryd.checked) (X := fun w _ => laidMetH Tryd.prog Rows.treeLeafRow.laid w) (fun _ _ _ hh h => h.of_heap hh) own started (by kernel_rfl) Tryd.func3
    (ChangeSpec.witness_shaped (enc := enc) (C := Tryd.checked) (os := os) (X := fun w _ => laidMetH Tryd.prog Rows.treeLeafRow.laid w) false (World.laidAll Tryd.prog os Rows.treeLeafRow.laid) #[.slice none 0 0, .int .i64 0, .slice none 0 0] 8 (World.laidAll_os _ _ _)
      (World.shaped_of_ZipB (by kernel_rfl) (by kernel_rfl)) (by kernel_rfl) (by kernel_rfl) (by kernel_rfl)
      (by rw [MakeChecks.laidMetH_plain _ _ _ (by kernel_rfl)]; exact laidMet_laidAll _ (by kernel_rfl) (by kernel_rfl))) ?_
  intro W base args ds gs before hval0 hW hcnd hsz hL _
  have hT := tab_of_laid hL
  have hval : ∀ (j : Nat) t v, Tryd.f3.params[j]? = some t → args[j]? = some v → Value.okWide Tryd.prog W .any base t v := hval0
  have hW' := hW
  obtain ⟨p, q, hA0, hV, rfl, hfz, hnd⟩ := hW
  have hA : DataW.TrodAll enc Tryd.prog W 0 (fun _ => true) true Tryd.f3.params.toList args.toList ds p := hA0
  rw [Tryd.params3] at hA hval
  obtain ⟨v0, vs0, d0, ds0, p0, q0, hargs, rfl, rfl, h0, r0⟩ := trodAll_cons hA
  obtain ⟨v1, vs1, d1, ds1, p1, q1, rfl, rfl, rfl, h1, r1⟩ := trodAll_cons r0
  obtain ⟨v2, vs2, d2, ds2, p2, q2, rfl, rfl, rfl, h2, r2⟩ := trodAll_cons r1
  obtain ⟨rfl, rfl, rfl⟩ := trodAll_nil r2
  obtain rfl : args = #[v0, v1, v2] := by cases args; simp_all
  obtain ⟨rfl, rfl⟩ := trodVars_none hV
  have k0 := h0
  have lt0 : ∀ x ∈ p0, x.block < W.heap.size := by obtain ⟨m, hm⟩ := k0; exact DataW.trod_lt m _ _ _ hm
  obtain ⟨q0, n0, c0, a0, rfl, w0, y0, l0, m0⟩ := open_byteslice (hval 0 22 v0 rfl rfl) h0
  obtain ⟨a1, rfl, rfl, rfl, w1⟩ := open_int Tryd.underlying3 (hval 1 3 v1 rfl rfl) h1
  have k2 := h2
  have lt2 : ∀ x ∈ p2, x.block < W.heap.size := by obtain ⟨m, hm⟩ := k2; exact DataW.trod_lt m _ _ _ hm
  obtain ⟨q2, n2, c2, a2, rfl, w2, y2, l2, m2⟩ := open_byteslice (hval 2 22 v2 rfl rfl) h2
  clear hA0 hval0
  refine (walk q0 n0 c0 a0 a1 q2 n2 c2 a2 w0 l0 m0 w1 w2 l2 m2 W hT y0 y2).mono fun e W' ⟨he, bel⟩ => ?_
  subst he
  exact ⟨_, rfl, _, _, _, [], _, [], hW', trodAll_mk1 (shut_bool Tryd.underlying4 _), (trodAll_cons_mk (Below.trod laidOut (by kernel_rfl) (of_decide_eq_true (by kernel_rfl)) k0 bel lt0) (trodAll_cons_mk (shut_int Tryd.underlying3 w1) (trodAll_cons_mk (Below.trod laidOut (by kernel_rfl) (of_decide_eq_true (by kernel_rfl)) k2 bel lt2) trodAll_mk0))), rfl, bel.frame _, fun h => by cases h⟩

theorem over : Rows.treeLeafRow.holds Tryd.pinned (OpenSpec.ofChange Rows.treeLeafSpec) :=
  OpenClaim.holds_of_wide 3 Tryd.f3 rfl rfl rfl rfl rfl rfl rfl ⟨rfl, rfl, rfl, rfl, rfl⟩ rfl rfl rfl rfl rfl (by kernel_rfl) Tryd.func3 (by kernel_rfl)
    (of_decide_eq_true (by kernel_rfl)) (by unfold Func.isWrapper; first | (rw [if_pos (by decide +kernel)]; kernel_rfl) | (rw [if_neg (by decide +kernel)]; exact ⟨rfl, rfl⟩))
    (fun os started H enc _ => lifted os started H enc)

set_option maxRecDepth 100000 in
theorem proved : Rows.TreeLeafCardSaid :=
  Claim7.holds_tied_plain_at .later [] [.data] true (true, "9cdaf957ca4f470c175790aa6dd30bf08ec4d45d6deccd3b138243499fd01b2a") true
    over (fun _ h => by cases h) (by kernel_rfl) (fun _ h => by cases h) treeLeaf_row_tie rfl ⟨rfl, rfl⟩ (by kernel_rfl) rfl
    (fun f fn hf hfn => by
      obtain rfl : f = 3 := Option.some.inj ((show Tryd.prog.funcNamed "citadel/citadellaw11.TreeLeaf" = some 3 by kernel_rfl).symm.trans hf) |>.symm
      obtain rfl : fn = Tryd.f3 := (Option.some.inj (Tryd.func3.symm.trans hfn)).symm
      exact ⟨by kernel_rfl, fun j t ht => by
        rw [Tryd.params3] at ht
        rcases j with _ | _ | _ | j
        · obtain rfl : t = 22 := by simpa using ht.symm
          exact (show Tryd.prog.wantsStandIn 22 = false by kernel_rfl)
        · obtain rfl : t = 3 := by simpa using ht.symm
          exact (show Tryd.prog.wantsStandIn 3 = false by kernel_rfl)
        · obtain rfl : t = 22 := by simpa using ht.symm
          exact (show Tryd.prog.wantsStandIn 22 = false by kernel_rfl)
        · simp at ht⟩)
    (by kernel_rfl)
end Go.Proofs.YtbdldnhpgpjnoaaDoor.treeLeaf

/- ChapAnswers: which answer every challenge has. Conditions: the package's variable holds the constants; package chap answers as its spec says. -/
import Derived.Test.YtccpecajbfpjdaaDoorChSp
import Derived.Test.YtccpecajbfpjdaaDoorChOp2
import Derived.Test.YtccpecajbfpjdaaDoorTie
import Derived.Test.YtccpecajbfpjdaaDoorCards
namespace Go.Proofs.YtccpecajbfpjdaaDoor
open Go.ChangeShapes Go.WideShapes Go.ChangeAt Go.RowKit Go.Shelf
namespace chapAnswers
set_option linter.unusedVariables false
set_option linter.unusedSimpArgs false
attribute [local irreducible] ansT ansD mk zeroK markF
attribute [local go_sem] Oper.semAt_some
set_option maxRecDepth 100000 in
set_option maxHeartbeats 2000000 in
theorem walk (CS : ChapSpec) {w : World} (hT : TabAt w) (z : Int) (p : Option Addr) (n1 c1 : Nat) (g1 : Nat → Nat) (h1 : ∀ j, j < n1 → g1 j < 256) (hp : BytesAt w p n1 g1) (hn1 : n1 ≤ c1) (hc1 : c1 ≤ maxLen) (q : Option Addr) (n2 c2 : Nat) (g2 : Nat → Nat) (h2 : ∀ j, j < n2 → g2 j < 256) (hq : BytesAt w q n2 g2) (hn2 : n2 ≤ c2) (hc2 : c2 ≤ maxLen) (hsz : n1 + n2 ≤ maxLen) :
    Calls Tryd.prog 3 #[.int .i64 z, .slice p n1 c1, .slice q n2 c2] w fun e w' => e = .returned (.bool true) ∧ Below w.heap.size w w' := by
  have ws : IntKind.i64.wrap ((n1 : Int) + (n2 : Int)) = (n1 : Int) + (n2 : Int) := IntWalk.i64_in _ (by unfold maxLen at hsz; omega)
  by_cases hl : (4096 : Int) < (n1 : Int) + (n2 : Int)
  · have f1 : decide ((4096 : Int) < (n1 : Int) + (n2 : Int)) = true := by simp [hl]
    have f2 : decide (4096 < n1 + n2) = true := by simp; omega
    go_enter Tryd.func3, Tryd.ntmps3
    go_wp2
    go_ret
    exact ⟨rfl, Below.refl _ _⟩
  have f1 : decide ((4096 : Int) < (n1 : Int) + (n2 : Int)) = false := by simpa using hl
  have f2 : decide (4096 < n1 + n2) = false := by simp; omega
  have CP1 := Lib.hid (Copy_any p n1 c1 g1 (by omega) w hp)
  have CP2 := Lib.hid (fun (W : World) (hb : Below w.heap.size w W) => Copy_any q n2 c2 g2 (by omega) W (hq.below hb))
  have AN := Lib.hid (fun (W : World) (P Q : Option Addr) (C D : Nat) (t : TabAt W) (e1 : n1 ≤ C) (e2 : n2 ≤ D) (b1 : BytesAt W P n1 g1) (b2 : BytesAt W Q n2 g2) => CS.answer t z (c1 := C) (c2 := D) (by omega) e1 e2 h1 h2 b1 b2)
  have RF := Lib.hid (fun (W : World) (hb : Below w.heap.size w W) => refAnswer_any (c1 := c1) (c2 := c2) z (by omega) h1 h2 (hp.below hb) (hq.below hb))
  have A1 := Lib.hid (fun (W : World) (t : TabAt W) => CS.answer t 1 (p := none) (n1 := 0) (c1 := 0) (g1 := zeroK) (q := none) (n2 := 0) (c2 := 0) (g2 := zeroK) (by omega) (Nat.le_refl _) (Nat.le_refl _) (fun j hj => absurd hj (Nat.not_lt_zero _)) (fun j hj => absurd hj (Nat.not_lt_zero _)) (.inl rfl) (.inl rfl))
  have KP1 := Lib.hid (fun (W : World) (D : Nat) (hb : Below w.heap.size w W) (hd : BytesAt W (some ⟨D, 0, none⟩) (n1 + 2) (markF n1 g1)) => Kept_any p n1 c1 (n1 + 2) D g1 (by omega) rfl W (hp.below hb) hd)
  have KP2 := Lib.hid (fun (W : World) (D : Nat) (hb : Below w.heap.size w W) (hd : BytesAt W (some ⟨D, 0, none⟩) (n2 + 2) (markF n2 g2)) => Kept_any q n2 c2 (n2 + 2) D g2 (by omega) rfl W (hq.below hb) hd)
  have NT := Lib.hid (exAns_not zeroK zeroK)
  have HT := Lib.hid hT
  clear hl hp hq hT h1 h2 hn1 hn2 hc1 hc2 hsz
  go_enter Tryd.func3, Tryd.ntmps3
  go_wp2_with (first
  | (go_at_call 9
     refine CP1.out.mono ?_; rintro e w1 ⟨D, m, rfl, rfl, b1, l1⟩
     have B1 := Lib.hid b1
     have P1 := Lib.hid ((LwB.none w).mono l1)
     clear b1 l1 CP1)
  | (go_at_call 9
     refine (CP2.out _ P1.out.low).mono ?_; rintro e w2 ⟨E, m, rfl, rfl, b2, l2⟩
     have B2 := Lib.hid b2
     have A2 := Lib.hid (B1.out.below l2)
     have P2 := Lib.hid (P1.out.mono l2)
     clear b2 l2 CP2 B1 P1)
  | (go_at_call 10
     refine (AN.out _ _ _ _ _ (HT.out.on P2.out.low) (Nat.le_add_right _ 2) (Nat.le_add_right _ 2) (A2.out.low rfl) (B2.out.low rfl)).mono ?_; rintro e w3 ⟨rfl, l3⟩
     have B3 := Lib.hid (B2.out.below l3)
     have A3 := Lib.hid (A2.out.below l3)
     have P3 := Lib.hid (P2.out.mono l3)
     clear l3 B2 A2 P2 AN)
  | (with_reducible show wpList _ _ _ (⟨some 9, Op.alloc 25, _, _, _, _⟩ :: _) _ _
     refine wpList_boxA_new rowSum rfl rfl _ rfl ?_
     intro w4 x4 l4 s4
     have P4 := Lib.hid (show LwB w [bxO w3.heap.size 25 (cellsOf .u8 (mk 32 zeroK))] w4 from P3.out.add l4 x4 (Nat.le_refl _))
     have B4 := Lib.hid (B3.out.below l4)
     have A4 := Lib.hid (A3.out.below l4)
     have M4 := Lib.hid (show (some ⟨D, 0, none⟩ : Option Addr) = some ⟨D, 0, none⟩ from rfl)
     have NA := Lib.hid (show D < w3.heap.size ∧ E < w3.heap.size from ⟨bytes_lt A3.out (by omega), bytes_lt B3.out (by omega)⟩)
     clear x4 l4 s4 P3 A3 B3 M4
     generalize w3.heap.size = J at *)
  | (with_reducible show wpList _ _ _ (⟨_, Op.store 25 _ _, _, _, _, none⟩ :: _) _ _
     refine wpList_boxA_put rowSum rfl _ _ rfl rfl J (cellsOf .u8 (mk 32 (ansD z n1 g1 n2 g2))) (cellsOf .u8 (mk 32 zeroK)) (s32_size _) (s32_one _) (s32_size _) rfl rfl (P4.out.bx (i := 0) rfl) ?_
     intro w5 x5 k5 s5
     have P5 := Lib.hid (show LwB w [bxO J 25 (cellsOf .u8 (mk 32 (ansD z n1 g1 n2 g2)))] w5 from P4.out.put 0 rfl x5 k5)
     have B5 := Lib.hid (bytes_keep B4.out k5 NA.out.2)
     have A5 := Lib.hid (bytes_keep A4.out k5 NA.out.1)
     clear x5 k5 s5 P4 A4 B4))
  refine wp_region_sched [(1, true), (0, false), (2, true), (3, true), (4, true), (5, true), (6, true), (7, true), (8, false), (9, true), (10, true), (11, true), (12, true), (13, true), (14, false), (15, true), (16, true), (17, true), (18, true), (19, false), (20, true), (21, true)] (fun V => BoxA V J 25 (cellsOf .u8 (mk 32 (ansD z n1 g1 n2 g2)))) (by kernel_rfl) (by kernel_rfl) (P5.out.drew.bx (i := 0) rfl) ?_
  have P6 := Lib.hid P5.out.drew
  have A6 := Lib.hid (A5.out.below (Below.refl _ _).drew)
  have B6 := Lib.hid (B5.out.below (Below.refl _ _).drew)
  clear P5 A5 B5
  refine walk_float rfl rfl (fun K hK => ?_)
  refine gives_s32_build rfl ?_
  go_simp
  refine hK _ ?_
  clear hK K
  refine walk_done rfl rfl (fun K hK => ?_)
  refine done_call3c _ _ _ _ _ rfl 10 rfl (enters_of Tryd.func10 (by kernel_rfl) rfl) _ _ _ rfl rfl rfl _ (A1.out _ (HT.out.on P6.out.low)) ?_
  rintro e w7 ⟨rfl, l7⟩
  have P7 := Lib.hid (P6.out.mono l7)
  have A7 := Lib.hid (A6.out.below l7)
  have B7 := Lib.hid (B6.out.below l7)
  clear l7 P6 A6 B6 A1
  refine ⟨_, rfl, P7.out.bx (i := 0) rfl, ?_⟩
  go_simp
  refine hK _ _ ?_
  clear hK K
  refine walk_float rfl rfl (fun K hK => ?_)
  refine gives_s32_neq _ _ rfl (ansD 1 0 zeroK 0 zeroK) zeroK rfl rfl true (by simp [NT.out]) ?_
  go_simp
  refine hK _ ?_
  clear hK K
  refine walk_float rfl rfl (fun K hK => ?_)
  refine gives_move _ rfl ?_
  go_simp
  refine hK _ ?_
  clear hK K
  refine walk_float rfl rfl (fun K hK => ?_)
  refine gives_s32_load _ rfl J (ansD z n1 g1 n2 g2) rfl (fun V hV => hV) ?_
  go_simp
  refine hK _ ?_
  clear hK K
  refine walk_float rfl rfl (fun K hK => ?_)
  refine gives_move _ rfl ?_
  go_simp
  refine hK _ ?_
  clear hK K
  refine walk_float rfl rfl (fun K hK => ?_)
  refine gives_move _ rfl ?_
  go_simp
  refine hK _ ?_
  clear hK K
  refine walk_float rfl rfl (fun K hK => ?_)
  refine gives_move _ rfl ?_
  go_simp
  refine hK _ ?_
  clear hK K
  refine walk_done rfl rfl (fun K hK => ?_)
  refine done_call3c _ _ _ _ _ rfl 11 rfl (enters_of Tryd.func11 (by kernel_rfl) rfl) _ _ _ rfl rfl rfl _ (RF.out _ P7.out.low) ?_
  rintro e w8 ⟨rfl, l8⟩
  have P8 := Lib.hid (P7.out.mono l8)
  have A8 := Lib.hid (A7.out.below l8)
  have B8 := Lib.hid (B7.out.below l8)
  clear l8 P7 A7 B7 RF
  refine ⟨_, rfl, P8.out.bx (i := 0) rfl, ?_⟩
  go_simp
  refine hK _ _ ?_
  clear hK K
  refine walk_float rfl rfl (fun K hK => ?_)
  refine gives_s32_eql _ _ rfl (ansD z n1 g1 n2 g2) (ansD z n1 g1 n2 g2) rfl rfl true (by simp) ?_
  go_simp
  refine hK _ ?_
  clear hK K
  refine walk_float rfl rfl (fun K hK => ?_)
  refine gives_pickT _ _ _ rfl rfl (.bool true) rfl ?_
  go_simp
  refine hK _ ?_
  clear hK K
  refine walk_float rfl rfl (fun K hK => ?_)
  refine gives_move _ rfl ?_
  go_simp
  refine hK _ ?_
  clear hK K
  refine walk_float rfl rfl (fun K hK => ?_)
  refine gives_move _ rfl ?_
  go_simp
  refine hK _ ?_
  clear hK K
  refine walk_float rfl rfl (fun K hK => ?_)
  refine gives_move _ rfl ?_
  go_simp
  refine hK _ ?_
  clear hK K
  refine walk_done rfl rfl (fun K hK => ?_)
  refine done_enter2 _ _ _ _ rfl 12 rfl (enters_of Tryd.func12 (by kernel_rfl) rfl) _ _ rfl rfl _ (KP1.out _ D P8.out.low A8.out) ?_
  rintro e w9 ⟨rfl, rfl⟩
  clear KP1 A8
  refine ⟨_, rfl, P8.out.bx (i := 0) rfl, ?_⟩
  go_simp
  refine hK _ _ ?_
  clear hK K
  refine walk_float rfl rfl (fun K hK => ?_)
  refine gives_pickT _ _ _ rfl rfl (.bool true) rfl ?_
  go_simp
  refine hK _ ?_
  clear hK K
  refine walk_float rfl rfl (fun K hK => ?_)
  refine gives_move _ rfl ?_
  go_simp
  refine hK _ ?_
  clear hK K
  refine walk_float rfl rfl (fun K hK => ?_)
  refine gives_move _ rfl ?_
  go_simp
  refine hK _ ?_
  clear hK K
  refine walk_float rfl rfl (fun K hK => ?_)
  refine gives_move _ rfl ?_
  go_simp
  refine hK _ ?_
  clear hK K
  refine walk_done rfl rfl (fun K hK => ?_)
  refine done_enter2 _ _ _ _ rfl 12 rfl (enters_of Tryd.func12 (by kernel_rfl) rfl) _ _ rfl rfl _ (KP2.out _ E P8.out.low B8.out) ?_
  rintro e wa ⟨rfl, rfl⟩
  clear KP2 B8
  refine ⟨_, rfl, P8.out.bx (i := 0) rfl, ?_⟩
  go_simp
  refine hK _ _ ?_
  clear hK K
  refine walk_float rfl rfl (fun K hK => ?_)
  refine gives_pickT _ _ _ rfl rfl (.bool true) rfl ?_
  go_simp
  refine hK _ ?_
  clear hK K
  refine walk_float rfl rfl (fun K hK => ?_)
  refine gives_assign _ rfl ?_
  go_simp
  refine hK _ ?_
  clear hK K
  refine walk_nil ?_
  go_wp2
  go_ret
  exact ⟨rfl, P8.out.low⟩
theorem own : ownKnob Tryd.prog.godebug = none := by kernel_rfl
theorem laidOut : laidOutB Tryd.prog = true := by kernel_rfl
set_option maxRecDepth 100000 in
theorem lifted (os : Os) (started : os.Started) (H : Type) (enc : TypeId × Value → H) :
    ReturnsInHanded {} Tryd.checked os 3 .any (fun w args => (Rows.chapAnswersSpec.pre enc Tryd.prog Tryd.f3 Rows.chapAnswersRow.domain false w args ∧ laidMetH Tryd.prog Rows.chapAnswersRow.laid w) ∧ sizedMet enc Tryd.prog Tryd.f3 (OpenSpec.ofChange Rows.chapAnswersSpec) false w args) (Rows.chapAnswersSpec.post enc Tryd.prog Tryd.f3 false true false false) := by
  refine returnsInHanded_of_change_and (C := Tryd.checked) (X := fun w _ => laidMetH Tryd.prog Rows.chapAnswersRow.laid w) (fun _ _ _ hh h => h.of_heap hh) own started (by kernel_rfl) Tryd.func3
    (ChangeSpec.witness_shaped (enc := enc) (C := Tryd.checked) (os := os) (X := fun w _ => laidMetH Tryd.prog Rows.chapAnswersRow.laid w) false (World.laidAll Tryd.prog os Rows.chapAnswersRow.laid) #[.int .i64 0, .slice none 0 0, .slice none 0 0] 8 (World.laidAll_os _ _ _)
      (World.shaped_of_ZipB (by kernel_rfl) (by kernel_rfl)) (by kernel_rfl) (by kernel_rfl) (by kernel_rfl)
      (by rw [MakeChecks.laidMetH_plain _ _ _ (by kernel_rfl)]; exact laidMet_laidAll _ (by kernel_rfl) (by kernel_rfl))) ?_
  intro W base args ds gs before hval0 hW hcnd hsz hL _
  have hT := tab_of_laid hL
  have hval : ∀ (j : Nat) t v, Tryd.f3.params[j]? = some t → args[j]? = some v → Value.okWide Tryd.prog W .any base t v := hval0
  have hW' := hW
  obtain ⟨p, q, hA0, hV, rfl, hfz, hnd⟩ := hW
  have hA : DataW.TrodAll enc Tryd.prog W 0 (fun _ => true) true Tryd.f3.params.toList args.toList ds p := hA0
  rw [Tryd.params3] at hA hval
  obtain ⟨v0, vs0, d0, ds0, p0, q0, hargs, rfl, rfl, h0, r0⟩ := trodAll_cons hA
  obtain ⟨v1, vs1, d1, ds1, p1, q1, rfl, rfl, rfl, h1, r1⟩ := trodAll_cons r0
  obtain ⟨v2, vs2, d2, ds2, p2, q2, rfl, rfl, rfl, h2, r2⟩ := trodAll_cons r1
  obtain ⟨rfl, rfl, rfl⟩ := trodAll_nil r2
  obtain rfl : args = #[v0, v1, v2] := by cases args; simp_all
  obtain ⟨rfl, rfl⟩ := trodVars_none hV
  obtain ⟨a0, rfl, rfl, rfl, w0⟩ := open_int Tryd.underlying3 (hval 0 3 v0 rfl rfl) h0
  have k1 := h1
  have lt1 : ∀ x ∈ p1, x.block < W.heap.size := by obtain ⟨m, hm⟩ := k1; exact DataW.trod_lt m _ _ _ hm
  obtain ⟨q1, n1, c1, a1, rfl, w1, y1, l1, m1⟩ := open_byteslice (hval 1 22 v1 rfl rfl) h1
  have k2 := h2
  have lt2 : ∀ x ∈ p2, x.block < W.heap.size := by obtain ⟨m, hm⟩ := k2; exact DataW.trod_lt m _ _ _ hm
  obtain ⟨q2, n2, c2, a2, rfl, w2, y2, l2, m2⟩ := open_byteslice (hval 2 22 v2 rfl rfl) h2
  have z1 := open_size k1 hsz (j := 1) (by rw [Tryd.params3]; rfl) rfl
  have z2 := open_size k2 hsz (j := 2) (by rw [Tryd.params3]; rfl) rfl
  clear hA0 hval0
  refine (walk chapSpec hT a0 q1 n1 c1 a1 w1 y1 l1 m1 q2 n2 c2 a2 w2 y2 l2 m2 (by unfold maxLen; omega)).mono fun e W' ⟨he, bel⟩ => ?_
  subst he
  exact ⟨_, rfl, _, _, _, [], _, [], hW', trodAll_mk1 (shut_bool Tryd.underlying4 _), (trodAll_cons_mk (shut_int Tryd.underlying3 w0) (trodAll_cons_mk (Below.trod laidOut (by kernel_rfl) (of_decide_eq_true (by kernel_rfl)) k1 bel lt1) (trodAll_cons_mk (Below.trod laidOut (by kernel_rfl) (of_decide_eq_true (by kernel_rfl)) k2 bel lt2) trodAll_mk0))), rfl, bel.frame _, fun h => by cases h⟩

theorem over : Rows.chapAnswersRow.holds Tryd.pinned (OpenSpec.ofChange Rows.chapAnswersSpec) :=
  OpenClaim.holds_of_wide 3 Tryd.f3 rfl rfl rfl rfl rfl rfl rfl ⟨rfl, rfl, rfl, rfl, rfl⟩ rfl rfl rfl rfl rfl (by kernel_rfl) Tryd.func3 (by kernel_rfl)
    (of_decide_eq_true (by kernel_rfl)) (by unfold Func.isWrapper; first | (rw [if_pos (by decide +kernel)]; kernel_rfl) | (rw [if_neg (by decide +kernel)]; exact ⟨rfl, rfl⟩))
    (fun os started H enc _ => lifted os started H enc)

set_option maxRecDepth 100000 in
theorem proved : Rows.ChapAnswersCardSaid :=
  Claim7.holds_tied_plain_at .later [] [.data] true (true, "fe2b54f320b46724d36697ff86eea2ee1142ca5255bc475a87788847d3b0ab21") false
    over (fun _ h => by cases h) (by kernel_rfl) (fun _ h => by cases h) chapAnswers_row_tie rfl ⟨rfl, rfl⟩ (by kernel_rfl) rfl
    (fun f fn hf hfn => by
      obtain rfl : f = 3 := Option.some.inj ((show Tryd.prog.funcNamed "citadel/citadellaw16.ChapAnswers" = some 3 by kernel_rfl).symm.trans hf) |>.symm
      obtain rfl : fn = Tryd.f3 := (Option.some.inj (Tryd.func3.symm.trans hfn)).symm
      exact ⟨by kernel_rfl, fun j t ht => by
        rw [Tryd.params3] at ht
        rcases j with _ | _ | _ | j
        · obtain rfl : t = 3 := by simpa using ht.symm
          exact (show Tryd.prog.wantsStandIn 3 = false by kernel_rfl)
        · obtain rfl : t = 22 := by simpa using ht.symm
          exact (show Tryd.prog.wantsStandIn 22 = false by kernel_rfl)
        · obtain rfl : t = 22 := by simpa using ht.symm
          exact (show Tryd.prog.wantsStandIn 22 = false by kernel_rfl)
        · simp at ht⟩)
    (by kernel_rfl)
end chapAnswers
end Go.Proofs.YtccpecajbfpjdaaDoor

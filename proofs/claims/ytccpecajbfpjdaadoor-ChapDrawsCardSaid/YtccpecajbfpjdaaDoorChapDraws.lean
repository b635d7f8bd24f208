/- ChapDraws: which draws a seed has, as many as are asked for. Conditions: the package's variable holds the constants; package chap answers as its spec says. -/
import Derived.Test.YtccpecajbfpjdaaDoorChSp
import Derived.Test.YtccpecajbfpjdaaDoorChOp2
import Derived.Test.YtccpecajbfpjdaaDoorTie
import Derived.Test.YtccpecajbfpjdaaDoorCards
namespace Go.Proofs.YtccpecajbfpjdaaDoor
open Go.ChangeShapes Go.WideShapes Go.ChangeAt Go.RowKit Go.Shelf
namespace chapDraws
set_option linter.unusedVariables false
set_option linter.unusedSimpArgs false
attribute [local irreducible] ansD drwD mk zeroK atN
attribute [local go_sem] Oper.semAt_some
set_option maxRecDepth 100000 in
set_option maxHeartbeats 2000000 in
theorem walk (CS : ChapSpec) {w : World} (hT : TabAt w) (s b a : Int) (hs : okI s) (hb : okI b) (ha : okI a) : Calls Tryd.prog 6 #[.int .i64 s, .int .i64 b, .int .i64 a] w fun e w' => e = .returned (.bool true) ∧ Below w.heap.size w w' := by
  obtain ⟨u, hu⟩ : ∃ u : Nat, IntKind.u64.wrap a = (u : Int) := by
    rw [IntKind.wrap_u64]; exact ⟨(a % 18446744073709551616).toNat, by omega⟩
  obtain ⟨mo, hmo, hmo1, hmo0⟩ : ∃ mo : Nat, mo = 1 + u % 8 ∧ mo ≤ 8 ∧ 1 ≤ mo := ⟨_, rfl, by omega, by omega⟩
  have Q1 := Lib.hid (show IntKind.i64.wrap ((u : Int) % 8) = (u : Int) % 8 from IntWalk.i64_in _ (by omega))
  have Q2 := Lib.hid (show IntKind.i64.wrap (1 + (u : Int) % 8) = 1 + (u : Int) % 8 from IntWalk.i64_in _ (by omega))
  have MO := Lib.hid (show 1 + (u : Int) % 8 = (mo : Int) by omega)
  have MO1 := Lib.hid hmo1
  have MO0 := Lib.hid hmo0
  have HU := Lib.hid hu
  have HT := Lib.hid hT
  have A1 := Lib.hid (fun (W : World) (t : TabAt W) => CS.answer t 1 (p := none) (n1 := 0) (c1 := 0) (g1 := zeroK) (q := none) (n2 := 0) (c2 := 0) (g2 := zeroK) (by omega) (Nat.le_refl _) (Nat.le_refl _) (fun j hj => absurd hj (Nat.not_lt_zero _)) (fun j hj => absurd hj (Nat.not_lt_zero _)) (.inl rfl) (.inl rfl))
  have DS := Lib.hid (fun (W : World) (t : TabAt W) => CS.draws t s b hs hb)
  have DR := Lib.hid (fun (W : World) (t : TabAt W) (n : Int) (hn : okI n) => CS.draw t s n hs hn)
  have NT := Lib.hid (exAns_not zeroK zeroK)
  clear hu hmo hmo1 hmo0 hT hs hb ha
  refine (callsIn_wide (n := 4)).1 ?_
  refine callsIn_of_wp_marks Tryd.func6 rfl trivial ?_ rfl
  simp only [Tryd.ntmps6, List.size_toArray, List.length_cons, List.length_nil, Nat.reduceAdd, Nat.reduceSub, Array.replicate_succ, Array.replicate_zero, List.push_toArray, List.append_toArray, List.nil_append, List.cons_append]
  refine wpIn_wide.2 ?_
  have hu := HU.out
  have q1 := Q1.out
  have q2 := Q2.out
  go_wp2_with (first
  | (with_reducible show wpList _ _ _ (⟨some 3, Op.box 3 _, _, _, _, none⟩ :: _) _ _
     refine wpList_one_of rfl _ rfl (.int .i64 s) rfl rfl ?_
     intro w1 x1 l1 s1
     have P1 := Lib.hid (show LwB w [bxO w.heap.size 3 #[.int .i64 s]] w1 from (LwB.none w).add l1 x1 (Nat.le_refl _))
     clear x1 l1 s1)
  | (with_reducible show wpList _ _ _ (⟨some 4, Op.box 3 _, _, _, _, none⟩ :: _) _ _
     refine wpList_one_of rfl _ rfl (.int .i64 b) rfl rfl ?_
     intro w2 x2 l2 s2
     have P2 := Lib.hid (show LwB w [bxO w1.heap.size 3 #[.int .i64 b], bxO w.heap.size 3 #[.int .i64 s]] w2 from P1.out.add l2 x2 (Nat.le_refl _))
     clear x2 l2 s2 P1
     generalize w1.heap.size = J1 at *)
  | (with_reducible show wpList _ _ _ (⟨some 5, Op.box 3 _, _, _, _, none⟩ :: _) _ _
     refine wpList_one_of rfl _ rfl (.int .i64 a) rfl rfl ?_
     intro w3 x3 l3 s3
     have P3 := Lib.hid (show LwB w [bxO w2.heap.size 3 #[.int .i64 a], bxO J1 3 #[.int .i64 b], bxO w.heap.size 3 #[.int .i64 s]] w3 from P2.out.add l3 x3 (Nat.le_refl _))
     clear x3 l3 s3 P2
     generalize w2.heap.size = J2 at *)
  | (with_reducible show wpList _ _ _ (⟨some 6, Op.alloc 4, _, _, _, _⟩ :: _) _ _
     refine wpList_one_new oneBool rfl rfl _ rfl ?_
     intro w4 x4 l4 s4
     have P4 := Lib.hid (show LwB w [bxO w3.heap.size 4 #[.bool false], bxO J2 3 #[.int .i64 a], bxO J1 3 #[.int .i64 b], bxO w.heap.size 3 #[.int .i64 s]] w4 from P3.out.add l4 x4 (Nat.le_refl _))
     clear x4 l4 s4 P3
     generalize w3.heap.size = J3 at *)
  | (go_at_call 10
     refine (A1.out _ (HT.out.on P4.out.low)).mono ?_; rintro e w5 ⟨rfl, l5⟩
     have P5 := Lib.hid (P4.out.mono l5)
     have g1 : w5.cell? ⟨J2, 0, none⟩ = some (.int .i64 a) := (P5.out.bx (i := 1) rfl).cell 0
     clear l5 P4 A1)
  | (refine wpList_s32_build rfl rfl ?_)
  | (refine wpList_s32_eql rfl _ _ rfl (ansD 1 0 zeroK 0 zeroK) zeroK rfl rfl false (beq_eq_false_iff_ne.2 NT.out) ?_)
  | (with_reducible show wpList _ _ _ (⟨_, Op.store 3 (.tmp 5) _, _, _, _, none⟩ :: _) _ _
     refine wpList_int_put rfl _ _ rfl rfl J2 a (1 + (u : Int) % 8) rfl rfl (P5.out.bx (i := 1) rfl) ?_
     rw [MO.out]
     intro w6 x6 k6 s6
     have P6 := Lib.hid (show LwB w [bxO J3 4 #[.bool false], bxO J2 3 #[.int .i64 (mo : Int)], bxO J1 3 #[.int .i64 b], bxO w.heap.size 3 #[.int .i64 s]] w6 from P5.out.put 1 rfl x6 k6)
     clear x6 k6 s6 P5 g1 hu q1 q2)
  | (with_reducible show wpList _ _ _ (⟨some 7, Op.alloc 3, _, _, _, _⟩ :: _) _ _
     refine wpList_one_new oneInt rfl rfl _ rfl ?_
     intro w7 x7 l7 s7
     have P7 := Lib.hid (show LwB w [bxO w6.heap.size 3 #[.int .i64 0], bxO J3 4 #[.bool false], bxO J2 3 #[.int .i64 (mo : Int)], bxO J1 3 #[.int .i64 b], bxO w.heap.size 3 #[.int .i64 s]] w7 from P6.out.add l7 x7 (Nat.le_refl _))
     clear x7 l7 s7 P6
     generalize w6.heap.size = KB at *)
  | (with_reducible show wpList _ _ _ (⟨_, Op.store 3 (.tmp 7) _, _, _, _, none⟩ :: _) _ _
     refine wpList_int_put rfl _ _ rfl rfl KB 0 0 rfl rfl (P7.out.bx (i := 0) rfl) ?_
     intro w8 x8 k8 s8
     have P8 := Lib.hid (show LwB w [bxO KB 3 #[.int .i64 0], bxO J3 4 #[.bool false], bxO J2 3 #[.int .i64 (mo : Int)], bxO J1 3 #[.int .i64 b], bxO w.heap.size 3 #[.int .i64 s]] w8 from P7.out.put 0 rfl x8 k8)
     have g2 : w8.cell? ⟨w.heap.size, 0, none⟩ = some (.int .i64 s) := (P8.out.bx (i := 4) rfl).cell 0
     have g3 : w8.cell? ⟨J1, 0, none⟩ = some (.int .i64 b) := (P8.out.bx (i := 3) rfl).cell 0
     clear x8 k8 s8 P7)
  | (go_at_call 15
     refine (DS.out _ (HT.out.on P8.out.low)).mono ?_; rintro e w5 ⟨gf, lb, T, rfl, eg, hT, l5, hit⟩
     have S5 := Lib.hid (LoS.of T (P8.out.mono l5))
     have HTT := Lib.hid (fun k hk => (hT k hk).1)
     have HTO := Lib.hid (show ¬ T KB from fun hk => by have := (hT KB hk).2; have := P8.out.lt (i := 0) rfl; simp only [bxO] at this; omega)
     have GV := Lib.hid hit
     have EG := Lib.hid eg
     have W5 := Lib.hid (S5.out.b.low.size)
     clear hT l5 hit eg P8 g2 g3 DS))
  refine (wpIn_wide (n := 3)).1 ?_
  refine range_free_brk rfl (by omega) (gf := gf) (lb := lb) rfl trivial EG.out
    (fun z : Int × (Nat → Nat) => #[.int .i64 z.1, .agg (cellsOf .u8 (mk 32 z.2))]) (fun i => (atN b i, drwD s (atN b i))) 4096 (fun V => TabAt V ∧ ∀ k, T k → V.heap[k]? = w5.heap[k]?) (fun _ => rfl)
    (fun i V => LoS w w5 T [bxO KB 3 #[.int .i64 ((i : Nat) : Int)], bxO J3 4 #[.bool false], bxO J2 3 #[.int .i64 (mo : Int)], bxO J1 3 #[.int .i64 b], bxO w.heap.size 3 #[.int .i64 s]] V ∧ i < mo) (fun V => LoS w w5 T [bxO KB 3 #[.int .i64 ((mo : Nat) : Int)], bxO J3 4 #[.bool false], bxO J2 3 #[.int .i64 (mo : Int)], bxO J1 3 #[.int .i64 b], bxO w.heap.size 3 #[.int .i64 s]] V) ?rd ?st ?stx ⟨S5.out, MO0.out⟩ GV.out ?round ?done
  case rd => exact fun i V h => ⟨HT.out.on h.1.b.low, h.1.it⟩
  case st => exact fun i V V' h hs => ⟨h.1.save HTT.out W5.out hs, h.2⟩
  case stx => exact fun V V' h hs => h.save HTT.out W5.out hs
  case round =>
    intro l i W hl hi hWs hI
    have HI := Lib.hid hI.1
    have HMI := Lib.hid hI.2
    have HWS := Lib.hid hWs
    have HN := Lib.hid (show IntKind.i64.wrap (b + (i : Int)) = atN b i by unfold atN; rfl)
    have OK := Lib.hid (atN_in b i)
    clear hI hi hWs S5 GV hl
    generalize atN b i = zb at *
    gi_wp2_with (first
      | (refine wpListIn_round (by rintro ⟨_, _, h⟩; exact h) _ _ _ rfl ?_
         go_wp2_with (first
           | (with_reducible show wpList _ _ _ (⟨some 9, Op.alloc 25, _, _, _, _⟩ :: _) _ _
              obtain ⟨J8, hJ8⟩ : ∃ J, W.heap.size = J := ⟨_, rfl⟩
              refine wpList_boxA_new rowSum rfl rfl J8 hJ8 ?_
              intro v1 x1 l1 s1
              have S1 := Lib.hid (show LwB W [bxO J8 25 (cellsOf .u8 (mk 32 zeroK))] v1 from (LwB.none W).add l1 x1 (Nat.le_of_eq hJ8))
              clear x1 l1 s1 hJ8)
           | (with_reducible show wpList _ _ _ (⟨_, Op.store 25 _ _, _, _, _, none⟩ :: _) _ _
              refine wpList_boxA_put rowSum rfl _ _ rfl rfl J8 (cellsOf .u8 (mk 32 (drwD s zb))) (cellsOf .u8 (mk 32 zeroK)) (s32_size _) (s32_one _) (s32_size _) rfl rfl (S1.out.bx (i := 0) rfl) ?_
              intro v2 x2 k2' s2
              have S2 := Lib.hid (show LwB W [bxO J8 25 (cellsOf .u8 (mk 32 (drwD s zb)))] v2 from S1.out.put 0 rfl x2 k2')
              clear x2 k2' s2 S1))))
    refine ⟨rec_low S2.out.low HWS.out, fun V hVs hVk hVS => ?_⟩
    have HV := Lib.hid ((HI.out.mono HTT.out S2.out.low).save HTT.out W5.out hVS)
    have X8 := Lib.hid (show BoxA V J8 25 (cellsOf .u8 (mk 32 (drwD s zb))) from (S2.out.bx (i := 0) rfl).keep (hVk J8 (by have h2 := (S2.out.box (i := 0) rfl).2; simp only [bxO] at h2; have := HWS.out; omega)))
    have HV2 := Lib.hid (show w5.heap.size + 2 ≤ V.heap.size from by have := HWS.out; have := S2.out.low.size; omega)
    have q3 : IntKind.i64.wrap ((i : Int) + 1) = (i : Int) + 1 := IntWalk.i64_in _ (by have := HMI.out; have := MO1.out; omega)
    clear hVs hVk hVS HI HWS S2
    go_simp
    by_cases hbr : i + 1 = mo
    · have d5 : ((i : Int) + 1 == (mo : Int)) = true := by simp; omega
      have HBK := Lib.hid (show i + 1 = mo from hbr)
      clear hbr
      gi_wp2_with (first
        | (with_reducible show Code.wpIn _ _ _ (Code.region _ _ true) _ _ _
           have V20 := Lib.hid (HV.out.mono HTT.out (Below.refl _ _).drew)
           have X20 := Lib.hid (show BoxA V.drew J8 25 (cellsOf .u8 (mk 32 (drwD s zb))) from X8.out)
           have R20 := Lib.hid (Below.refl V.heap.size V).drew
           refine round_sched [(0, true), (1, true), (2, true), (3, true), (4, true), (5, true), (6, true), (7, true), (8, true), (9, true), (10, true), (11, false), (12, true), (13, true), (14, true), (15, true), (16, true), (17, true), (18, false), (19, true), (20, true)] (fun V => BoxA V w.heap.size 3 #[.int .i64 s] ∧ BoxA V J1 3 #[.int .i64 b] ∧ BoxA V KB 3 #[.int .i64 (i : Int)] ∧ BoxA V J8 25 (cellsOf .u8 (mk 32 (drwD s zb)))) (by kernel_rfl) (by kernel_rfl) (by kernel_rfl) (by rintro ⟨_, _, h⟩; exact h) ⟨V20.out.b.bx (i := 4) rfl, V20.out.b.bx (i := 3) rfl, V20.out.b.bx (i := 0) rfl, X20.out⟩ ?_
           refine walk_float rfl rfl (fun K hK => ?_)
           refine gives_move _ rfl ?_
           go_simp
           refine hK _ ?_
           clear hK K
           refine walk_float rfl rfl (fun K hK => ?_)
           refine gives_cell 3 _ rfl ⟨J1, 0, none⟩ (.int .i64 b) rfl box_int (fun V hV => hV.2.1.cell 0) ?_
           go_simp
           refine hK _ ?_
           clear hK K
           refine walk_float rfl rfl (fun K hK => ?_)
           refine gives_cell 3 _ rfl ⟨KB, 0, none⟩ (.int .i64 (i : Int)) rfl box_int (fun V hV => hV.2.2.1.cell 0) ?_
           go_simp
           refine hK _ ?_
           clear hK K
           refine walk_float rfl rfl (fun K hK => ?_)
           refine gives_add64 _ _ rfl b (i : Int) zb rfl rfl HN.out ?_
           go_simp
           refine hK _ ?_
           clear hK K
           refine walk_float rfl rfl (fun K hK => ?_)
           refine gives_ne64 _ _ rfl zb rfl rfl ?_
           go_simp
           refine hK _ ?_
           clear hK K
           refine walk_float rfl rfl (fun K hK => ?_)
           refine gives_move _ rfl ?_
           go_simp
           refine hK _ ?_
           clear hK K
           refine walk_float rfl rfl (fun K hK => ?_)
           refine gives_s32_load _ rfl J8 (drwD s zb) rfl (fun V hV => hV.2.2.2) ?_
           go_simp
           refine hK _ ?_
           clear hK K
           refine walk_float rfl rfl (fun K hK => ?_)
           refine gives_cell 3 _ rfl ⟨w.heap.size, 0, none⟩ (.int .i64 s) rfl box_int (fun V hV => hV.1.cell 0) ?_
           go_simp
           refine hK _ ?_
           clear hK K
           refine walk_float rfl rfl (fun K hK => ?_)
           refine gives_cell 3 _ rfl ⟨J1, 0, none⟩ (.int .i64 b) rfl box_int (fun V hV => hV.2.1.cell 0) ?_
           go_simp
           refine hK _ ?_
           clear hK K
           refine walk_float rfl rfl (fun K hK => ?_)
           refine gives_cell 3 _ rfl ⟨KB, 0, none⟩ (.int .i64 (i : Int)) rfl box_int (fun V hV => hV.2.2.1.cell 0) ?_
           go_simp
           refine hK _ ?_
           clear hK K
           refine walk_float rfl rfl (fun K hK => ?_)
           refine gives_add64 _ _ rfl b (i : Int) zb rfl rfl HN.out ?_
           go_simp
           refine hK _ ?_
           clear hK K
           refine walk_done rfl rfl (fun K hK => ?_)
           refine done_enter2 _ _ _ _ rfl 16 rfl (enters_of Tryd.func16 (by kernel_rfl) rfl) _ _ rfl rfl _ (refDraw_any s zb) ?_
           rintro e z21 ⟨rfl, l21⟩
           have V21 := Lib.hid (V20.out.mono HTT.out l21)
           have X21 := Lib.hid (X20.out.keep (l21.block _ X20.out.lt))
           have R21 := Lib.hid (R20.out.trans (l21.mono R20.out.size))
           clear l21 V20 X20 R20
           refine ⟨_, rfl, ⟨V21.out.b.bx (i := 4) rfl, V21.out.b.bx (i := 3) rfl, V21.out.b.bx (i := 0) rfl, X21.out⟩, ?_⟩
           go_simp
           refine hK _ _ ?_
           clear hK K
           refine walk_float rfl rfl (fun K hK => ?_)
           refine gives_s32_neq _ _ rfl (drwD s zb) (drwD s zb) rfl rfl false (by simp) ?_
           go_simp
           refine hK _ ?_
           clear hK K
           refine walk_float rfl rfl (fun K hK => ?_)
           refine gives_pickF _ _ _ rfl rfl (.bool false) rfl ?_
           go_simp
           refine hK _ ?_
           clear hK K
           refine walk_float rfl rfl (fun K hK => ?_)
           refine gives_move _ rfl ?_
           go_simp
           refine hK _ ?_
           clear hK K
           refine walk_float rfl rfl (fun K hK => ?_)
           refine gives_s32_load _ rfl J8 (drwD s zb) rfl (fun V hV => hV.2.2.2) ?_
           go_simp
           refine hK _ ?_
           clear hK K
           refine walk_float rfl rfl (fun K hK => ?_)
           refine gives_cell 3 _ rfl ⟨w.heap.size, 0, none⟩ (.int .i64 s) rfl box_int (fun V hV => hV.1.cell 0) ?_
           go_simp
           refine hK _ ?_
           clear hK K
           refine walk_float rfl rfl (fun K hK => ?_)
           refine gives_move _ rfl ?_
           go_simp
           refine hK _ ?_
           clear hK K
           refine walk_done rfl rfl (fun K hK => ?_)
           refine done_enter2 _ _ _ _ rfl 17 rfl (enters_of Tryd.func17 (by kernel_rfl) rfl) _ _ rfl rfl _ (DR.out _ (HT.out.on V21.out.b.low) zb OK.out) ?_
           rintro e z22 ⟨rfl, l22⟩
           have V22 := Lib.hid (V21.out.mono HTT.out l22)
           have X22 := Lib.hid (X21.out.keep (l22.block _ X21.out.lt))
           have R22 := Lib.hid (R21.out.trans (l22.mono R21.out.size))
           clear l22 V21 X21 R21
           refine ⟨_, rfl, ⟨V22.out.b.bx (i := 4) rfl, V22.out.b.bx (i := 3) rfl, V22.out.b.bx (i := 0) rfl, X22.out⟩, ?_⟩
           go_simp
           refine hK _ _ ?_
           clear hK K
           refine walk_float rfl rfl (fun K hK => ?_)
           refine gives_s32_neq _ _ rfl (drwD s zb) (drwD s zb) rfl rfl false (by simp) ?_
           go_simp
           refine hK _ ?_
           clear hK K
           refine walk_float rfl rfl (fun K hK => ?_)
           refine gives_pickF _ _ _ rfl rfl (.bool false) rfl ?_
           go_simp
           refine hK _ ?_
           clear hK K
           have e0 : z22.cell? ⟨KB, 0, none⟩ = some (.int .i64 (i : Int)) := (V22.out.b.bx (i := 0) rfl).cell 0
           refine walk_nil ?_)
        | (refine wpListIn_round (by rintro ⟨_, _, h⟩; exact h) _ _ _ rfl ?_
           go_wp2_with (first
             | (with_reducible show wpList _ _ _ (⟨_, Op.store 3 (.tmp 7) _, _, _, _, none⟩ :: _) _ _
                refine wpList_int_put rfl _ _ rfl rfl KB (i : Int) ((i : Int) + 1) rfl rfl (V22.out.b.bx (i := 0) rfl) ?_
                intro v6 x6 k6 s6
                have V6 := Lib.hid (show LoS w w5 T [bxO KB 3 #[.int .i64 ((i : Int) + 1)], bxO J3 4 #[.bool false], bxO J2 3 #[.int .i64 (mo : Int)], bxO J1 3 #[.int .i64 b], bxO w.heap.size 3 #[.int .i64 s]] v6 from V22.out.put HTT.out 0 rfl HTO.out x6 k6 s6)
                have R6 := Lib.hid ((rec_low (w5 := w5) R22.out HV2.out).trans (rec_put (w5 := w5) k6 s6 (V22.out.top (i := 0) rfl) (Nat.le_trans HV2.out R22.out.size)))
                have e6 : v6.cell? ⟨KB, 0, none⟩ = some (.int .i64 ((i : Int) + 1)) := (V6.out.b.bx (i := 0) rfl).cell 0
                have e7 : v6.cell? ⟨J2, 0, none⟩ = some (.int .i64 (mo : Int)) := (V6.out.b.bx (i := 2) rfl).cell 0
                clear x6 k6 s6 V22 R22 X22 e0))))
      have e8 : (i : Int) + 1 = (mo : Int) := by have := HBK.out; omega
      exact ⟨R6.out, rfl, by have h := V6.out; rw [e8] at h; exact h⟩
    · have d5 : ((i : Int) + 1 == (mo : Int)) = false := beq_eq_false_iff_ne.2 (by omega)
      have HBK := Lib.hid (show i + 1 < mo by have := HMI.out; omega)
      clear hbr
      gi_wp2_with (first
        | (with_reducible show Code.wpIn _ _ _ (Code.region _ _ true) _ _ _
           have V20 := Lib.hid (HV.out.mono HTT.out (Below.refl _ _).drew)
           have X20 := Lib.hid (show BoxA V.drew J8 25 (cellsOf .u8 (mk 32 (drwD s zb))) from X8.out)
           have R20 := Lib.hid (Below.refl V.heap.size V).drew
           refine round_sched [(0, true), (1, true), (2, true), (3, true), (4, true), (5, true), (6, true), (7, true), (8, true), (9, true), (10, true), (11, false), (12, true), (13, true), (14, true), (15, true), (16, true), (17, true), (18, false), (19, true), (20, true)] (fun V => BoxA V w.heap.size 3 #[.int .i64 s] ∧ BoxA V J1 3 #[.int .i64 b] ∧ BoxA V KB 3 #[.int .i64 (i : Int)] ∧ BoxA V J8 25 (cellsOf .u8 (mk 32 (drwD s zb)))) (by kernel_rfl) (by kernel_rfl) (by kernel_rfl) (by rintro ⟨_, _, h⟩; exact h) ⟨V20.out.b.bx (i := 4) rfl, V20.out.b.bx (i := 3) rfl, V20.out.b.bx (i := 0) rfl, X20.out⟩ ?_
           refine walk_float rfl rfl (fun K hK => ?_)
           refine gives_move _ rfl ?_
           go_simp
           refine hK _ ?_
           clear hK K
           refine walk_float rfl rfl (fun K hK => ?_)
           refine gives_cell 3 _ rfl ⟨J1, 0, none⟩ (.int .i64 b) rfl box_int (fun V hV => hV.2.1.cell 0) ?_
           go_simp
           refine hK _ ?_
           clear hK K
           refine walk_float rfl rfl (fun K hK => ?_)
           refine gives_cell 3 _ rfl ⟨KB, 0, none⟩ (.int .i64 (i : Int)) rfl box_int (fun V hV => hV.2.2.1.cell 0) ?_
           go_simp
           refine hK _ ?_
           clear hK K
           refine walk_float rfl rfl (fun K hK => ?_)
           refine gives_add64 _ _ rfl b (i : Int) zb rfl rfl HN.out ?_
           go_simp
           refine hK _ ?_
           clear hK K
           refine walk_float rfl rfl (fun K hK => ?_)
           refine gives_ne64 _ _ rfl zb rfl rfl ?_
           go_simp
           refine hK _ ?_
           clear hK K
           refine walk_float rfl rfl (fun K hK => ?_)
           refine gives_move _ rfl ?_
           go_simp
           refine hK _ ?_
           clear hK K
           refine walk_float rfl rfl (fun K hK => ?_)
           refine gives_s32_load _ rfl J8 (drwD s zb) rfl (fun V hV => hV.2.2.2) ?_
           go_simp
           refine hK _ ?_
           clear hK K
           refine walk_float rfl rfl (fun K hK => ?_)
           refine gives_cell 3 _ rfl ⟨w.heap.size, 0, none⟩ (.int .i64 s) rfl box_int (fun V hV => hV.1.cell 0) ?_
           go_simp
           refine hK _ ?_
           clear hK K
           refine walk_float rfl rfl (fun K hK => ?_)
           refine gives_cell 3 _ rfl ⟨J1, 0, none⟩ (.int .i64 b) rfl box_int (fun V hV => hV.2.1.cell 0) ?_
           go_simp
           refine hK _ ?_
           clear hK K
           refine walk_float rfl rfl (fun K hK => ?_)
           refine gives_cell 3 _ rfl ⟨KB, 0, none⟩ (.int .i64 (i : Int)) rfl box_int (fun V hV => hV.2.2.1.cell 0) ?_
           go_simp
           refine hK _ ?_
           clear hK K
           refine walk_float rfl rfl (fun K hK => ?_)
           refine gives_add64 _ _ rfl b (i : Int) zb rfl rfl HN.out ?_
           go_simp
           refine hK _ ?_
           clear hK K
           refine walk_done rfl rfl (fun K hK => ?_)
           refine done_enter2 _ _ _ _ rfl 16 rfl (enters_of Tryd.func16 (by kernel_rfl) rfl) _ _ rfl rfl _ (refDraw_any s zb) ?_
           rintro e z21 ⟨rfl, l21⟩
           have V21 := Lib.hid (V20.out.mono HTT.out l21)
           have X21 := Lib.hid (X20.out.keep (l21.block _ X20.out.lt))
           have R21 := Lib.hid (R20.out.trans (l21.mono R20.out.size))
           clear l21 V20 X20 R20
           refine ⟨_, rfl, ⟨V21.out.b.bx (i := 4) rfl, V21.out.b.bx (i := 3) rfl, V21.out.b.bx (i := 0) rfl, X21.out⟩, ?_⟩
           go_simp
           refine hK _ _ ?_
           clear hK K
           refine walk_float rfl rfl (fun K hK => ?_)
           refine gives_s32_neq _ _ rfl (drwD s zb) (drwD s zb) rfl rfl false (by simp) ?_
           go_simp
           refine hK _ ?_
           clear hK K
           refine walk_float rfl rfl (fun K hK => ?_)
           refine gives_pickF _ _ _ rfl rfl (.bool false) rfl ?_
           go_simp
           refine hK _ ?_
           clear hK K
           refine walk_float rfl rfl (fun K hK => ?_)
           refine gives_move _ rfl ?_
           go_simp
           refine hK _ ?_
           clear hK K
           refine walk_float rfl rfl (fun K hK => ?_)
           refine gives_s32_load _ rfl J8 (drwD s zb) rfl (fun V hV => hV.2.2.2) ?_
           go_simp
           refine hK _ ?_
           clear hK K
           refine walk_float rfl rfl (fun K hK => ?_)
           refine gives_cell 3 _ rfl ⟨w.heap.size, 0, none⟩ (.int .i64 s) rfl box_int (fun V hV => hV.1.cell 0) ?_
           go_simp
           refine hK _ ?_
           clear hK K
           refine walk_float rfl rfl (fun K hK => ?_)
           refine gives_move _ rfl ?_
           go_simp
           refine hK _ ?_
           clear hK K
           refine walk_done rfl rfl (fun K hK => ?_)
           refine done_enter2 _ _ _ _ rfl 17 rfl (enters_of Tryd.func17 (by kernel_rfl) rfl) _ _ rfl rfl _ (DR.out _ (HT.out.on V21.out.b.low) zb OK.out) ?_
           rintro e z22 ⟨rfl, l22⟩
           have V22 := Lib.hid (V21.out.mono HTT.out l22)
           have X22 := Lib.hid (X21.out.keep (l22.block _ X21.out.lt))
           have R22 := Lib.hid (R21.out.trans (l22.mono R21.out.size))
           clear l22 V21 X21 R21
           refine ⟨_, rfl, ⟨V22.out.b.bx (i := 4) rfl, V22.out.b.bx (i := 3) rfl, V22.out.b.bx (i := 0) rfl, X22.out⟩, ?_⟩
           go_simp
           refine hK _ _ ?_
           clear hK K
           refine walk_float rfl rfl (fun K hK => ?_)
           refine gives_s32_neq _ _ rfl (drwD s zb) (drwD s zb) rfl rfl false (by simp) ?_
           go_simp
           refine hK _ ?_
           clear hK K
           refine walk_float rfl rfl (fun K hK => ?_)
           refine gives_pickF _ _ _ rfl rfl (.bool false) rfl ?_
           go_simp
           refine hK _ ?_
           clear hK K
           have e0 : z22.cell? ⟨KB, 0, none⟩ = some (.int .i64 (i : Int)) := (V22.out.b.bx (i := 0) rfl).cell 0
           refine walk_nil ?_)
        | (refine wpListIn_round (by rintro ⟨_, _, h⟩; exact h) _ _ _ rfl ?_
           go_wp2_with (first
             | (with_reducible show wpList _ _ _ (⟨_, Op.store 3 (.tmp 7) _, _, _, _, none⟩ :: _) _ _
                refine wpList_int_put rfl _ _ rfl rfl KB (i : Int) ((i : Int) + 1) rfl rfl (V22.out.b.bx (i := 0) rfl) ?_
                intro v6 x6 k6 s6
                have V6 := Lib.hid (show LoS w w5 T [bxO KB 3 #[.int .i64 ((i : Int) + 1)], bxO J3 4 #[.bool false], bxO J2 3 #[.int .i64 (mo : Int)], bxO J1 3 #[.int .i64 b], bxO w.heap.size 3 #[.int .i64 s]] v6 from V22.out.put HTT.out 0 rfl HTO.out x6 k6 s6)
                have R6 := Lib.hid ((rec_low (w5 := w5) R22.out HV2.out).trans (rec_put (w5 := w5) k6 s6 (V22.out.top (i := 0) rfl) (Nat.le_trans HV2.out R22.out.size)))
                have e6 : v6.cell? ⟨KB, 0, none⟩ = some (.int .i64 ((i : Int) + 1)) := (V6.out.b.bx (i := 0) rfl).cell 0
                have e7 : v6.cell? ⟨J2, 0, none⟩ = some (.int .i64 (mo : Int)) := (V6.out.b.bx (i := 2) rfl).cell 0
                clear x6 k6 s6 V22 R22 X22 e0))))
      exact ⟨R6.out, V6.out, HBK.out⟩
  case done =>
    intro D W hD hI hd
    replace hI : LoS w w5 T [bxO KB 3 #[.int .i64 ((mo : Nat) : Int)], bxO J3 4 #[.bool false], bxO J2 3 #[.int .i64 (mo : Int)], bxO J1 3 #[.int .i64 b], bxO w.heap.size 3 #[.int .i64 s]] W := by
      rcases hI with ⟨hI, h1⟩ | h
      · have := MO1.out; omega
      · exact h
    have P2 := Lib.hid (hI.mark W5.out hD hd)
    have g2 : W.cell? ⟨KB, 0, none⟩ = some (.int .i64 (mo : Int)) := (hI.b.bx (i := 0) rfl).cell 0
    have g4 : W.cell? ⟨J2, 0, none⟩ = some (.int .i64 (mo : Int)) := (hI.b.bx (i := 2) rfl).cell 0
    clear hI hD hd S5 GV HTT HTO
    go_wp2_with (first
      | (with_reducible show wpList _ _ _ (⟨_, Op.store 4 _ _, _, _, _, none⟩ :: _) _ _
         refine wpList_bool_put rfl _ _ rfl rfl J3 true false rfl (by first | rfl | (simp; done)) (P2.out.bx (i := 2) rfl) ?_
         intro Z xz kz sz
         have PZ := Lib.hid (show LwB w (mkO D :: [bxO KB 3 #[.int .i64 ((mo : Nat) : Int)], bxO J3 4 #[.bool true], bxO J2 3 #[.int .i64 (mo : Int)], bxO J1 3 #[.int .i64 b], bxO w.heap.size 3 #[.int .i64 s]]) Z from P2.out.put 2 rfl xz kz)
         clear xz kz sz P2 g2 g4))
    have hd1 := PZ.out.mark (i := 0) rfl
    have hr : Z.heap[J3]? = some (.cells #[.bool true] 4 (0, 0)) := PZ.out.bx (i := 2) rfl
    have hb1 : w.heap.size ≤ D := (PZ.out.box (i := 0) rfl).2
    refine ⟨by simp, .inl ⟨_, _, rfl, run_takeDeferred hd1, ?_⟩⟩
    have r1 := cells_turn (o' := .deferred none) hr hd1 rfl
    have hc := BoxA.cell (T := 4) (A := #[.bool true]) r1 0
    simp only [List.getElem?_toArray, List.getElem?_cons_zero] at hc
    refine ⟨.bool true, ?_, rfl, below_turn _ PZ.out.low hb1⟩
    simp [results, Tryd.f6, go_sem, hc]
theorem own : ownKnob Tryd.prog.godebug = none := by kernel_rfl
set_option maxRecDepth 100000 in
theorem lifted (os : Os) (started : os.Started) (H : Type) (enc : TypeId × Value → H) :
    ReturnsInHanded {} Tryd.checked os 6 .any (fun w args => (Rows.chapDrawsSpec.pre enc Tryd.prog Tryd.f6 Rows.chapDrawsRow.domain false w args ∧ laidMetH Tryd.prog Rows.chapDrawsRow.laid w) ∧ sizedMet enc Tryd.prog Tryd.f6 (OpenSpec.ofChange Rows.chapDrawsSpec) false w args) (Rows.chapDrawsSpec.post enc Tryd.prog Tryd.f6 false true false false) := by
  refine returnsInHanded_of_change_and (C := Tryd.checked) (X := fun w _ => laidMetH Tryd.prog Rows.chapDrawsRow.laid w) (fun _ _ _ hh h => h.of_heap hh) own started (by kernel_rfl) Tryd.func6
    (ChangeSpec.witness_shaped (enc := enc) (C := Tryd.checked) (os := os) (X := fun w _ => laidMetH Tryd.prog Rows.chapDrawsRow.laid w) false (World.laidAll Tryd.prog os Rows.chapDrawsRow.laid) #[.int .i64 0, .int .i64 0, .int .i64 0] 8 (World.laidAll_os _ _ _)
      (World.shaped_of_ZipB (by kernel_rfl) (by kernel_rfl)) (by kernel_rfl) (by kernel_rfl) (by kernel_rfl)
      (by rw [MakeChecks.laidMetH_plain _ _ _ (by kernel_rfl)]; exact laidMet_laidAll _ (by kernel_rfl) (by kernel_rfl))) ?_
  intro W base args ds gs before hval0 hW hcnd hsz hL _
  have hT := tab_of_laid hL
  have hval : ∀ (j : Nat) t v, Tryd.f6.params[j]? = some t → args[j]? = some v → Value.okWide Tryd.prog W .any base t v := hval0
  have hW' := hW
  obtain ⟨p, q, hA0, hV, rfl, hfz, hnd⟩ := hW
  have hA : DataW.TrodAll enc Tryd.prog W 0 (fun _ => true) true Tryd.f6.params.toList args.toList ds p := hA0
  rw [Tryd.params6] at hA hval
  obtain ⟨v0, vs0, d0, ds0, p0, q0, hargs, rfl, rfl, h0, r0⟩ := trodAll_cons hA
  obtain ⟨v1, vs1, d1, ds1, p1, q1, rfl, rfl, rfl, h1, r1⟩ := trodAll_cons r0
  obtain ⟨v2, vs2, d2, ds2, p2, q2, rfl, rfl, rfl, h2, r2⟩ := trodAll_cons r1
  obtain ⟨rfl, rfl, rfl⟩ := trodAll_nil r2
  obtain rfl : args = #[v0, v1, v2] := by cases args; simp_all
  obtain ⟨rfl, rfl⟩ := trodVars_none hV
  obtain ⟨a0, rfl, rfl, rfl, w0⟩ := open_int Tryd.underlying3 (hval 0 3 v0 rfl rfl) h0
  obtain ⟨a1, rfl, rfl, rfl, w1⟩ := open_int Tryd.underlying3 (hval 1 3 v1 rfl rfl) h1
  obtain ⟨a2, rfl, rfl, rfl, w2⟩ := open_int Tryd.underlying3 (hval 2 3 v2 rfl rfl) h2
  clear hA0 hval0
  refine (walk chapSpec hT a0 a1 a2 (okI_wf w0) (okI_wf w1) (okI_wf w2)).mono fun e W' ⟨he, bel⟩ => ?_
  subst he
  exact ⟨_, rfl, _, _, _, [], _, [], hW', trodAll_mk1 (shut_bool Tryd.underlying4 _), (trodAll_cons_mk (shut_int Tryd.underlying3 w0) (trodAll_cons_mk (shut_int Tryd.underlying3 w1) (trodAll_cons_mk (shut_int Tryd.underlying3 w2) trodAll_mk0))), rfl, bel.frame _, fun h => by cases h⟩

theorem over : Rows.chapDrawsRow.holds Tryd.pinned (OpenSpec.ofChange Rows.chapDrawsSpec) :=
  OpenClaim.holds_of_wide 6 Tryd.f6 rfl rfl rfl rfl rfl rfl rfl ⟨rfl, rfl, rfl, rfl, rfl⟩ rfl rfl rfl rfl rfl (by kernel_rfl) Tryd.func6 (by kernel_rfl)
    (of_decide_eq_true (by kernel_rfl)) (by unfold Func.isWrapper; first | (rw [if_pos (by decide +kernel)]; kernel_rfl) | (rw [if_neg (by decide +kernel)]; exact ⟨rfl, rfl⟩))
    (fun os started H enc _ => lifted os started H enc)

set_option maxRecDepth 100000 in
theorem proved : Rows.ChapDrawsCardSaid :=
  Claim7.holds_tied_plain_at .later [] [.data] true (true, "fe2b54f320b46724d36697ff86eea2ee1142ca5255bc475a87788847d3b0ab21") false
    over (fun _ h => by cases h) (by kernel_rfl) (fun _ h => by cases h) chapDraws_row_tie rfl ⟨rfl, rfl⟩ (by kernel_rfl) rfl
    (fun f fn hf hfn => by
      obtain rfl : f = 6 := Option.some.inj ((show Tryd.prog.funcNamed "citadel/citadellaw16.ChapDraws" = some 6 by kernel_rfl).symm.trans hf) |>.symm
      obtain rfl : fn = Tryd.f6 := (Option.some.inj (Tryd.func6.symm.trans hfn)).symm
      exact ⟨by kernel_rfl, fun j t ht => by
        rw [Tryd.params6] at ht
        rcases j with _ | _ | _ | j
        · obtain rfl : t = 3 := by simpa using ht.symm
          exact (show Tryd.prog.wantsStandIn 3 = false by kernel_rfl)
        · obtain rfl : t = 3 := by simpa using ht.symm
          exact (show Tryd.prog.wantsStandIn 3 = false by kernel_rfl)
        · obtain rfl : t = 3 := by simpa using ht.symm
          exact (show Tryd.prog.wantsStandIn 3 = false by kernel_rfl)
        · simp at ht⟩)
    (by kernel_rfl)
end chapDraws
end Go.Proofs.YtccpecajbfpjdaaDoor

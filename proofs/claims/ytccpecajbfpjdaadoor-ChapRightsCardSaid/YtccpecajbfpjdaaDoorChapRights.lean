/- ChapRights: which answers are right. Conditions: the package's variable holds the constants; package chap answers as its spec says. -/
import Derived.Test.YtccpecajbfpjdaaDoorChLw
import Derived.Test.YtccpecajbfpjdaaDoorChOp2
import Derived.Test.YtccpecajbfpjdaaDoorTie
import Derived.Test.YtccpecajbfpjdaaDoorCards
namespace Go.Proofs.YtccpecajbfpjdaaDoor
open Go.ChangeShapes Go.WideShapes Go.ChangeAt Go.RowKit Go.Shelf
namespace chapRights
set_option linter.unusedVariables false
set_option linter.unusedSimpArgs false
attribute [local irreducible] ansT ansD mk zeroK bitD
attribute [local go_sem] Oper.semAt_some
set_option maxRecDepth 100000 in
set_option maxHeartbeats 4000000 in
theorem walk (CS : ChapSpec) {w : World} (hT : TabAt w) (z k : Int) (o : Bool) (p : Option Addr) (n1 c1 : Nat) (g1 : Nat → Nat) (q : Option Addr) (n2 c2 : Nat) (g2 : Nat → Nat) (r : Option Addr) (n3 c3 : Nat) (g3 : Nat → Nat) (s1 : (∀ i, i < n1 → g1 i < 256) ∧ n1 ≤ c1 ∧ n1 ≤ 140737488351232) (s2 : (∀ i, i < n2 → g2 i < 256) ∧ n2 ≤ c2 ∧ n2 ≤ 140737488351232) (s3 : (∀ i, i < n3 → g3 i < 256) ∧ n3 ≤ c3 ∧ n3 ≤ 140737488351232) (hp : BytesAt w p n1 g1) (hq : BytesAt w q n2 g2) (hr : BytesAt w r n3 g3) :
    Calls Tryd.prog 4 #[.agg #[.int .i64 z, .slice p n1 c1, .slice q n2 c2, .slice r n3 c3, .bool o, .int .i64 k]] w fun e w' => e = .returned (.bool true) ∧ Below w.heap.size w w' := by
  obtain ⟨h1, hc1, b1⟩ := s1
  obtain ⟨h2, hc2, b2⟩ := s2
  obtain ⟨h3, hc3, b3⟩ := s3
  have ws : IntKind.i64.wrap ((n1 : Int) + (n2 : Int)) = (n1 : Int) + (n2 : Int) := IntWalk.i64_in _ (by omega)
  by_cases hl : (4096 : Int) < (n1 : Int) + (n2 : Int)
  · have f1 : decide ((4096 : Int) < (n1 : Int) + (n2 : Int)) = true := by simp [hl]
    have f2 : decide (4096 < n1 + n2) = true := by simp; omega
    clear hT hp hq hr CS
    go_enter Tryd.func4, Tryd.ntmps4
    go_wp2_with (first
    | (with_reducible show wpList _ _ _ (⟨some 1, Op.box 30 _, _, _, _, none⟩ :: _) _ _
       refine wpList_boxA_of rfl _ rfl #[.int .i64 z, .slice p n1 c1, .slice q n2 c2, .slice r n3 c3, .bool o, .int .i64 k] rfl ?_
       intro w1 x1 l1 s1
       have P1 := Lib.hid l1
       have d1 : w1.cell? ⟨w.heap.size, 1, none⟩ = some (.slice p n1 c1) := x1.cell 1
       have d2 : w1.cell? ⟨w.heap.size, 2, none⟩ = some (.slice q n2 c2) := x1.cell 2
       clear x1 l1 s1))
    go_ret
    exact ⟨rfl, P1.out⟩
  have f1 : decide ((4096 : Int) < (n1 : Int) + (n2 : Int)) = false := by simpa using hl
  have f2 : decide (4096 < n1 + n2) = false := by simp; omega
  have HT := Lib.hid hT
  have RF := Lib.hid (fun (W : World) (hb : Below w.heap.size w W) => refAnswer_any (c1 := c1) (c2 := c2) z (by omega) h1 h2 (hp.below hb) (hq.below hb))
  have RR := Lib.hid (fun (W : World) (t : TabAt W) (hb : Below w.heap.size w W) (R : Option Addr) (n c : Nat) (g : Nat → Nat) (hn : n ≤ 140737488351232) (hg : ∀ j, j < n → g j < 256) (h : BytesAt W R n g) => CS.right t z (c3 := c) (by omega) hc1 hc2 hn h1 h2 hg (hp.below hb) (hq.below hb) h)
  have R4 := Lib.hid (fun (W : World) (t : TabAt W) (hb : Below w.heap.size w W) => RR.out W t hb r n3 c3 g3 b3 h3 (hr.below hb))
  have AL := Lib.hid (ansD_lt z n1 g1 n2 g2)
  have SM := Lib.hid (fun (W : World) (hb : Below w.heap.size w W) (J : Nat) (h : BytesAt W (some ⟨J, 0, none⟩) 32 (ansD z n1 g1 n2 g2)) => Same_dec (some ⟨J, 0, none⟩) 32 32 r n3 c3 (ansD z n1 g1 n2 g2) g3 (fun j _ => ansD_lt _ _ _ _ _ j) h3 W h (hr.below hb))
  clear hl hp hq hr h1 h2 h3 hT CS hc1 hc2 hc3 b1 b2 b3
  generalize ansD z n1 g1 n2 g2 = A at *
  have R1 := Lib.hid (fun (W : World) (t : TabAt W) (hb : Below w.heap.size w W) (J : Nat) (h : BytesAt W (some ⟨J, 0, none⟩) 32 A) => (by
    have h' := RR.out W t hb (some ⟨J, 0, none⟩) 32 32 A (by omega) (fun j _ => AL.out j) h
    rw [decide_eq_true rfl] at h'
    exact (show Calls Tryd.prog 13 #[.int .i64 z, .slice p n1 c1, .slice q n2 c2, .slice (some ⟨J, 0, none⟩) 32 32] W fun e W' => e = .returned (.bool true) ∧ Below W.heap.size W W' from h')))
  have R2 := Lib.hid (fun (W : World) (t : TabAt W) (hb : Below w.heap.size w W) (J : Nat) (h : BytesAt W (some ⟨J, 0, none⟩) 31 A) => (by
    have h' := RR.out W t hb (some ⟨J, 0, none⟩) 31 32 A (by omega) (fun j _ => AL.out j) h
    rw [decide_eq_false (fun e => by have := congrArg List.length e; rw [mk_len, mk_len] at this; omega)] at h'
    exact (show Calls Tryd.prog 13 #[.int .i64 z, .slice p n1 c1, .slice q n2 c2, .slice (some ⟨J, 0, none⟩) 31 32] W fun e W' => e = .returned (.bool false) ∧ Below W.heap.size W W' from h')))
  cases o with
  | true =>
    obtain ⟨u, hu⟩ : ∃ u : Nat, IntKind.u64.wrap k = (u : Int) := by
      rw [IntKind.wrap_u64]; exact ⟨(k % 18446744073709551616).toNat, by omega⟩
    obtain ⟨kk, hkk, hk1⟩ : ∃ kk : Nat, kk = u % 256 ∧ kk < 256 := ⟨_, rfl, by omega⟩
    obtain ⟨d, hd, hd1⟩ : ∃ d : Nat, d = kk / 8 ∧ d < 32 := ⟨_, rfl, by omega⟩
    obtain ⟨e, he, he1⟩ : ∃ e : Nat, e = kk % 8 ∧ e < 8 := ⟨_, rfl, by omega⟩
    have R3 := Lib.hid (fun (W : World) (t : TabAt W) (hb : Below w.heap.size w W) (J : Nat) (h : BytesAt W (some ⟨J, 0, none⟩) 32 (bitD A d e)) => (by
      have h' := RR.out W t hb (some ⟨J, 0, none⟩) 32 32 (bitD A d e) (by omega) (fun j _ => bitD_lt AL.out he1 j) h
      rw [decide_eq_false (bitD_ne hd1)] at h'
      exact (show Calls Tryd.prog 13 #[.int .i64 z, .slice p n1 c1, .slice q n2 c2, .slice (some ⟨J, 0, none⟩) 32 32] W fun e W' => e = .returned (.bool false) ∧ Below W.heap.size W W' from h')))
    obtain ⟨x, hx⟩ : ∃ x, A d = x := ⟨_, rfl⟩
    have hx1 : x < 256 := by rw [← hx]; exact AL.out d
    have p2 : 2 ^ e < 256 := by
      rcases (show e = 0 ∨ e = 1 ∨ e = 2 ∨ e = 3 ∨ e = 4 ∨ e = 5 ∨ e = 6 ∨ e = 7 by omega) with rfl | rfl | rfl | rfl | rfl | rfl | rfl | rfl <;> decide
    obtain ⟨P0, hP0⟩ : ∃ P, 2 ^ e = P := ⟨_, rfl⟩
    obtain ⟨y, hy⟩ : ∃ y, x ^^^ P0 = y := ⟨_, rfl⟩
    rw [hP0] at p2
    have x2 := bits_xor_u8 hx1 p2
    rw [hy] at x2
    have ST := Lib.hid (bitD_set A d e (v := (y : Int)) (by rw [hx, hP0, hy]))
    have HE := Lib.hid he1
    have HP0 := Lib.hid hP0
    have CX := Lib.hid (show (cellsOf .u8 (mk 32 A))[d]? = some (.int .u8 (x : Nat)) from by
      have := cellsOf_get .u8 (mk 32 A) (i := d) (by rw [mk_len]; exact hd1)
      rw [this, mk_get hd1, hx])
    generalize hB : bitD A d e = B at *
    have q0 : IntKind.i64.wrap ((u : Int) % 256) = (u : Int) % 256 := IntWalk.i64_in _ (by omega)
    have q1 : (u : Int) % 256 = (kk : Int) := by omega
    have q2 : (kk : Int) / 8 = (d : Int) := by omega
    have q3 : (kk : Int) % 8 = (e : Int) := by omega
    have q4 : IntKind.i64.wrap (d : Int) = (d : Int) := IntWalk.i64_in _ (by omega)
    have q5 : IntKind.i64.wrap (e : Int) = (e : Int) := IntWalk.i64_in _ (by omega)
    have q6 : IntKind.u64.wrap (e : Int) = (e : Int) := by rw [IntKind.wrap_u64]; omega
    have q7 : (0 : Int) ≤ d := by omega
    have q8 : (d : Int) < 32 := by omega
    have q9 : (kk : Int).tdiv 8 = (d : Int) := by rw [Int.tdiv_eq_ediv_of_nonneg (by omega)]; omega
    have qa : (kk : Int).tmod 8 = (e : Int) := by rw [Int.tmod_eq_emod_of_nonneg (by omega)]; omega
    have qb : (u : Int).tmod 256 = (kk : Int) := by rw [Int.tmod_eq_emod_of_nonneg (by omega)]; omega
    have qc : IntKind.i64.wrap (kk : Int) = (kk : Int) := IntWalk.i64_in _ (by omega)
    clear hkk hk1 hd hd1 he he1 hx hx1 hy p2 hB RR AL SM R4 hP0
    go_enter Tryd.func4, Tryd.ntmps4
    go_wp2_with (first
    | (with_reducible show wpList _ _ _ (⟨some 1, Op.box 30 _, _, _, _, none⟩ :: _) _ _
       refine wpList_boxA_of rfl _ rfl #[.int .i64 z, .slice p n1 c1, .slice q n2 c2, .slice r n3 c3, .bool true, .int .i64 k] rfl ?_
       intro w1 x1 l1 s1
       have P1 := Lib.hid (show LwB w [bxO w.heap.size 30 #[.int .i64 z, .slice p n1 c1, .slice q n2 c2, .slice r n3 c3, .bool true, .int .i64 k]] w1 from (LwB.none w).add l1 x1 (Nat.le_refl _))
       have d0 : w1.cell? ⟨w.heap.size, 0, none⟩ = some (.int .i64 z) := (P1.out.bx (i := 0) rfl).cell 0
       have d1 : w1.cell? ⟨w.heap.size, 1, none⟩ = some (.slice p n1 c1) := (P1.out.bx (i := 0) rfl).cell 1
       have d2 : w1.cell? ⟨w.heap.size, 2, none⟩ = some (.slice q n2 c2) := (P1.out.bx (i := 0) rfl).cell 2
       have d3 : w1.cell? ⟨w.heap.size, 3, none⟩ = some (.slice r n3 c3) := (P1.out.bx (i := 0) rfl).cell 3
       have d4 : w1.cell? ⟨w.heap.size, 4, none⟩ = some (.bool true) := (P1.out.bx (i := 0) rfl).cell 4
       have d5 : w1.cell? ⟨w.heap.size, 5, none⟩ = some (.int .i64 k) := (P1.out.bx (i := 0) rfl).cell 5
       clear x1 l1 s1)
    | (go_at_call 11
       refine (RF.out w1 P1.out.low).mono ?_; rintro e w2 ⟨rfl, l2⟩
       have P2 := Lib.hid (P1.out.mono l2)
       clear l2 P1 RF d0 d1 d2 d3 d4 d5)
    | (with_reducible show wpList _ _ _ (⟨some 3, Op.alloc 25, _, _, _, _⟩ :: _) _ _
       refine wpList_boxA_new rowSum rfl rfl _ rfl ?_
       intro w3 x3 l3 s3
       have P3 := Lib.hid (show LwB w [bxO w2.heap.size 25 (cellsOf .u8 (mk 32 zeroK)), bxO w.heap.size 30 #[.int .i64 z, .slice p n1 c1, .slice q n2 c2, .slice r n3 c3, .bool true, .int .i64 k]] w3 from P2.out.add l3 x3 (Nat.le_refl _))
       clear x3 l3 s3 P2
       generalize w2.heap.size = J at *)
    | (with_reducible show wpList _ _ _ (⟨_, Op.store 25 _ _, _, _, _, none⟩ :: _) _ _
       refine wpList_boxA_put rowSum rfl _ _ rfl rfl J (cellsOf .u8 (mk 32 A)) (cellsOf .u8 (mk 32 zeroK)) (s32_size _) (s32_one _) (s32_size _) rfl rfl (P3.out.bx (i := 0) rfl) ?_
       intro w4 x4 k4 s4
       have P4 := Lib.hid (show LwB w [bxO J 25 (cellsOf .u8 (mk 32 A)), bxO w.heap.size 30 #[.int .i64 z, .slice p n1 c1, .slice q n2 c2, .slice r n3 c3, .bool true, .int .i64 k]] w4 from P3.out.put 0 rfl x4 k4)
       clear x4 k4 s4 P3))
    have P5 := Lib.hid P4.out.drew
    clear P4
    refine wp_region_sched [(0, true), (1, true), (2, true), (3, true), (4, true), (5, true), (6, true), (7, false), (8, true), (9, true), (10, true), (11, true), (12, true), (13, true), (14, true), (15, true), (16, true), (17, false), (18, true)] (fun V => BoxA V w.heap.size 30 #[.int .i64 z, .slice p n1 c1, .slice q n2 c2, .slice r n3 c3, .bool true, .int .i64 k] ∧ BoxA V J 25 (cellsOf .u8 (mk 32 A))) (by kernel_rfl) (by kernel_rfl) ⟨P5.out.bx (i := 1) rfl, P5.out.bx (i := 0) rfl⟩ ?_
    refine walk_float rfl rfl (fun K hK => ?_)
    refine gives_askfield _ 0 rfl (by omega) w.heap.size rfl ?_
    go_simp
    refine hK _ ?_
    clear hK K
    refine walk_float rfl rfl (fun K hK => ?_)
    refine gives_cell 3 _ rfl ⟨w.heap.size, 0, none⟩ (.int .i64 z) rfl box_int (fun V hV => hV.1.cell 0) ?_
    go_simp
    refine hK _ ?_
    clear hK K
    refine walk_float rfl rfl (fun K hK => ?_)
    refine gives_askfield _ 1 rfl (by omega) w.heap.size rfl ?_
    go_simp
    refine hK _ ?_
    clear hK K
    refine walk_float rfl rfl (fun K hK => ?_)
    refine gives_cell 22 _ rfl ⟨w.heap.size, 1, none⟩ (.slice p n1 c1) rfl apart.box_bytes (fun V hV => hV.1.cell 1) ?_
    go_simp
    refine hK _ ?_
    clear hK K
    refine walk_float rfl rfl (fun K hK => ?_)
    refine gives_askfield _ 2 rfl (by omega) w.heap.size rfl ?_
    go_simp
    refine hK _ ?_
    clear hK K
    refine walk_float rfl rfl (fun K hK => ?_)
    refine gives_cell 22 _ rfl ⟨w.heap.size, 2, none⟩ (.slice q n2 c2) rfl apart.box_bytes (fun V hV => hV.1.cell 2) ?_
    go_simp
    refine hK _ ?_
    clear hK K
    refine walk_float rfl rfl (fun K hK => ?_)
    refine gives_wholeSum _ rfl J rfl ?_
    go_simp
    refine hK _ ?_
    clear hK K
    refine walk_done rfl rfl (fun K hK => ?_)
    refine done_call4c _ _ _ _ _ _ rfl 13 rfl (enters_of Tryd.func13 (by kernel_rfl) rfl) _ _ _ _ rfl rfl rfl rfl _ (R1.out _ (HT.out.on P5.out.low) P5.out.low J (box_s32 (P5.out.bx (i := 0) rfl))) ?_
    rintro e w6 ⟨rfl, l6⟩
    have P6 := Lib.hid (P5.out.mono l6)
    clear l6 P5
    refine ⟨_, rfl, ⟨P6.out.bx (i := 1) rfl, P6.out.bx (i := 0) rfl⟩, ?_⟩
    go_simp
    refine hK _ _ ?_
    clear hK K
    refine walk_float rfl rfl (fun K hK => ?_)
    refine gives_not2 _ _ rfl true false rfl rfl ?_
    go_simp
    refine hK _ ?_
    clear hK K
    refine walk_float rfl rfl (fun K hK => ?_)
    refine gives_move _ rfl ?_
    go_simp
    refine hK _ ?_
    clear hK K
    refine walk_float rfl rfl (fun K hK => ?_)
    refine gives_askfield _ 0 rfl (by omega) w.heap.size rfl ?_
    go_simp
    refine hK _ ?_
    clear hK K
    refine walk_float rfl rfl (fun K hK => ?_)
    refine gives_cell 3 _ rfl ⟨w.heap.size, 0, none⟩ (.int .i64 z) rfl box_int (fun V hV => hV.1.cell 0) ?_
    go_simp
    refine hK _ ?_
    clear hK K
    refine walk_float rfl rfl (fun K hK => ?_)
    refine gives_askfield _ 1 rfl (by omega) w.heap.size rfl ?_
    go_simp
    refine hK _ ?_
    clear hK K
    refine walk_float rfl rfl (fun K hK => ?_)
    refine gives_cell 22 _ rfl ⟨w.heap.size, 1, none⟩ (.slice p n1 c1) rfl apart.box_bytes (fun V hV => hV.1.cell 1) ?_
    go_simp
    refine hK _ ?_
    clear hK K
    refine walk_float rfl rfl (fun K hK => ?_)
    refine gives_askfield _ 2 rfl (by omega) w.heap.size rfl ?_
    go_simp
    refine hK _ ?_
    clear hK K
    refine walk_float rfl rfl (fun K hK => ?_)
    refine gives_cell 22 _ rfl ⟨w.heap.size, 2, none⟩ (.slice q n2 c2) rfl apart.box_bytes (fun V hV => hV.1.cell 2) ?_
    go_simp
    refine hK _ ?_
    clear hK K
    refine walk_float rfl rfl (fun K hK => ?_)
    refine gives_uptoSum _ rfl J rfl ?_
    go_simp
    refine hK _ ?_
    clear hK K
    refine walk_done rfl rfl (fun K hK => ?_)
    refine done_call4c _ _ _ _ _ _ rfl 13 rfl (enters_of Tryd.func13 (by kernel_rfl) rfl) _ _ _ _ rfl rfl rfl rfl _ (R2.out _ (HT.out.on P6.out.low) P6.out.low J ((box_s32 (P6.out.bx (i := 0) rfl)).upto (k := 31) (by omega))) ?_
    rintro e w7 ⟨rfl, l7⟩
    have P7 := Lib.hid (P6.out.mono l7)
    clear l7 P6
    refine ⟨_, rfl, ⟨P7.out.bx (i := 1) rfl, P7.out.bx (i := 0) rfl⟩, ?_⟩
    go_simp
    refine hK _ _ ?_
    clear hK K
    refine walk_float rfl rfl (fun K hK => ?_)
    refine gives_pickF _ _ _ rfl rfl (.bool false) rfl ?_
    go_simp
    refine hK _ ?_
    clear hK K
    refine walk_nil ?_
    have d4 : w7.cell? ⟨w.heap.size, 4, none⟩ = some (.bool true) := (P7.out.bx (i := 1) rfl).cell 4
    have d5 : w7.cell? ⟨w.heap.size, 5, none⟩ = some (.int .i64 k) := (P7.out.bx (i := 1) rfl).cell 5
    have cs : w7.cell? ⟨J, d, none⟩ = some (.int .u8 (x : Nat)) := by rw [(P7.out.bx (i := 0) rfl).cell d]; exact CX.out
    have fs : w7.frozen? ⟨J, d, none⟩ = false := (P7.out.bx (i := 0) rfl).free d
    go_wp2_with (first
      | (refine wpList_bit rfl _ rfl e P0 HE.out HP0.out rfl ?_))
    have P8 := Lib.hid (show LwB w [bxO J 25 (cellsOf .u8 (mk 32 B)), bxO w.heap.size 30 #[.int .i64 z, .slice p n1 c1, .slice q n2 c2, .slice r n3 c3, .bool true, .int .i64 k]] (w7.setCell ⟨J, d, none⟩ (.int .u8 (y : Nat))) from P7.out.put 0 rfl (by
      have h := (show IntBlk w7 J .u8 25 (mk 32 A) from P7.out.bx (i := 0) rfl).set d (y : Int)
      rw [ST.out] at h
      exact h) ((Keeps.refl (fun j => j = J) w7).setCell rfl d _))
    clear P7 cs fs d4 d5
    generalize w7.setCell ⟨J, d, none⟩ (.int .u8 (y : Nat)) = w8 at *
    have P9 := Lib.hid P8.out.drew
    clear P8
    refine wp_region_sched [(0, true), (1, true), (2, true), (3, true), (4, true), (5, true), (6, true), (7, false), (8, true), (9, true)] (fun V => BoxA V w.heap.size 30 #[.int .i64 z, .slice p n1 c1, .slice q n2 c2, .slice r n3 c3, .bool true, .int .i64 k] ∧ BoxA V J 25 (cellsOf .u8 (mk 32 B))) (by kernel_rfl) (by kernel_rfl) ⟨P9.out.bx (i := 1) rfl, P9.out.bx (i := 0) rfl⟩ ?_
    refine walk_float rfl rfl (fun K hK => ?_)
    refine gives_askfield _ 0 rfl (by omega) w.heap.size rfl ?_
    go_simp
    refine hK _ ?_
    clear hK K
    refine walk_float rfl rfl (fun K hK => ?_)
    refine gives_cell 3 _ rfl ⟨w.heap.size, 0, none⟩ (.int .i64 z) rfl box_int (fun V hV => hV.1.cell 0) ?_
    go_simp
    refine hK _ ?_
    clear hK K
    refine walk_float rfl rfl (fun K hK => ?_)
    refine gives_askfield _ 1 rfl (by omega) w.heap.size rfl ?_
    go_simp
    refine hK _ ?_
    clear hK K
    refine walk_float rfl rfl (fun K hK => ?_)
    refine gives_cell 22 _ rfl ⟨w.heap.size, 1, none⟩ (.slice p n1 c1) rfl apart.box_bytes (fun V hV => hV.1.cell 1) ?_
    go_simp
    refine hK _ ?_
    clear hK K
    refine walk_float rfl rfl (fun K hK => ?_)
    refine gives_askfield _ 2 rfl (by omega) w.heap.size rfl ?_
    go_simp
    refine hK _ ?_
    clear hK K
    refine walk_float rfl rfl (fun K hK => ?_)
    refine gives_cell 22 _ rfl ⟨w.heap.size, 2, none⟩ (.slice q n2 c2) rfl apart.box_bytes (fun V hV => hV.1.cell 2) ?_
    go_simp
    refine hK _ ?_
    clear hK K
    refine walk_float rfl rfl (fun K hK => ?_)
    refine gives_wholeSum _ rfl J rfl ?_
    go_simp
    refine hK _ ?_
    clear hK K
    refine walk_done rfl rfl (fun K hK => ?_)
    refine done_call4c _ _ _ _ _ _ rfl 13 rfl (enters_of Tryd.func13 (by kernel_rfl) rfl) _ _ _ _ rfl rfl rfl rfl _ (R3.out _ (HT.out.on P9.out.low) P9.out.low J (box_s32 (P9.out.bx (i := 0) rfl))) ?_
    rintro e wa ⟨rfl, la⟩
    have Pa := Lib.hid (P9.out.mono la)
    clear la P9
    refine ⟨_, rfl, ⟨Pa.out.bx (i := 1) rfl, Pa.out.bx (i := 0) rfl⟩, ?_⟩
    go_simp
    refine hK _ _ ?_
    clear hK K
    refine walk_float rfl rfl (fun K hK => ?_)
    refine gives_not2 _ _ rfl false true rfl rfl ?_
    go_simp
    refine hK _ ?_
    clear hK K
    refine walk_float rfl rfl (fun K hK => ?_)
    refine gives_assign _ rfl ?_
    go_simp
    refine hK _ ?_
    clear hK K
    refine walk_nil ?_
    go_wp2
    go_ret
    exact ⟨rfl, Pa.out.low⟩
  | false =>
    have hd : ∃ D : Bool, decide (mk 32 A = mk n3 g3) = D := ⟨_, rfl⟩
    obtain ⟨D, hD⟩ := hd
    rw [hD] at SM
    replace R4 := Lib.hid (fun (W : World) (t : TabAt W) (hb : Below w.heap.size w W) => (by
      have h' := R4.out W t hb
      rw [hD] at h'
      exact (show Calls Tryd.prog 13 #[.int .i64 z, .slice p n1 c1, .slice q n2 c2, .slice r n3 c3] W fun e W' => e = .returned (.bool D) ∧ Below W.heap.size W W' from h')))
    clear hD RR AL
    go_enter Tryd.func4, Tryd.ntmps4
    go_wp2_with (first
    | (with_reducible show wpList _ _ _ (⟨some 1, Op.box 30 _, _, _, _, none⟩ :: _) _ _
       refine wpList_boxA_of rfl _ rfl #[.int .i64 z, .slice p n1 c1, .slice q n2 c2, .slice r n3 c3, .bool false, .int .i64 k] rfl ?_
       intro w1 x1 l1 s1
       have P1 := Lib.hid (show LwB w [bxO w.heap.size 30 #[.int .i64 z, .slice p n1 c1, .slice q n2 c2, .slice r n3 c3, .bool false, .int .i64 k]] w1 from (LwB.none w).add l1 x1 (Nat.le_refl _))
       have d0 : w1.cell? ⟨w.heap.size, 0, none⟩ = some (.int .i64 z) := (P1.out.bx (i := 0) rfl).cell 0
       have d1 : w1.cell? ⟨w.heap.size, 1, none⟩ = some (.slice p n1 c1) := (P1.out.bx (i := 0) rfl).cell 1
       have d2 : w1.cell? ⟨w.heap.size, 2, none⟩ = some (.slice q n2 c2) := (P1.out.bx (i := 0) rfl).cell 2
       have d3 : w1.cell? ⟨w.heap.size, 3, none⟩ = some (.slice r n3 c3) := (P1.out.bx (i := 0) rfl).cell 3
       have d4 : w1.cell? ⟨w.heap.size, 4, none⟩ = some (.bool false) := (P1.out.bx (i := 0) rfl).cell 4
       have d5 : w1.cell? ⟨w.heap.size, 5, none⟩ = some (.int .i64 k) := (P1.out.bx (i := 0) rfl).cell 5
       clear x1 l1 s1)
    | (go_at_call 11
       refine (RF.out w1 P1.out.low).mono ?_; rintro e w2 ⟨rfl, l2⟩
       have P2 := Lib.hid (P1.out.mono l2)
       clear l2 P1 RF d0 d1 d2 d3 d4 d5)
    | (with_reducible show wpList _ _ _ (⟨some 3, Op.alloc 25, _, _, _, _⟩ :: _) _ _
       refine wpList_boxA_new rowSum rfl rfl _ rfl ?_
       intro w3 x3 l3 s3
       have P3 := Lib.hid (show LwB w [bxO w2.heap.size 25 (cellsOf .u8 (mk 32 zeroK)), bxO w.heap.size 30 #[.int .i64 z, .slice p n1 c1, .slice q n2 c2, .slice r n3 c3, .bool false, .int .i64 k]] w3 from P2.out.add l3 x3 (Nat.le_refl _))
       clear x3 l3 s3 P2
       generalize w2.heap.size = J at *)
    | (with_reducible show wpList _ _ _ (⟨_, Op.store 25 _ _, _, _, _, none⟩ :: _) _ _
       refine wpList_boxA_put rowSum rfl _ _ rfl rfl J (cellsOf .u8 (mk 32 A)) (cellsOf .u8 (mk 32 zeroK)) (s32_size _) (s32_one _) (s32_size _) rfl rfl (P3.out.bx (i := 0) rfl) ?_
       intro w4 x4 k4 s4
       have P4 := Lib.hid (show LwB w [bxO J 25 (cellsOf .u8 (mk 32 A)), bxO w.heap.size 30 #[.int .i64 z, .slice p n1 c1, .slice q n2 c2, .slice r n3 c3, .bool false, .int .i64 k]] w4 from P3.out.put 0 rfl x4 k4)
       clear x4 k4 s4 P3))
    have P5 := Lib.hid P4.out.drew
    clear P4
    refine wp_region_sched [(0, true), (1, true), (2, true), (3, true), (4, true), (5, true), (6, true), (7, false), (8, true), (9, true), (10, true), (11, true), (12, true), (13, true), (14, true), (15, true), (16, true), (17, false), (18, true)] (fun V => BoxA V w.heap.size 30 #[.int .i64 z, .slice p n1 c1, .slice q n2 c2, .slice r n3 c3, .bool false, .int .i64 k] ∧ BoxA V J 25 (cellsOf .u8 (mk 32 A))) (by kernel_rfl) (by kernel_rfl) ⟨P5.out.bx (i := 1) rfl, P5.out.bx (i := 0) rfl⟩ ?_
    refine walk_float rfl rfl (fun K hK => ?_)
    refine gives_askfield _ 0 rfl (by omega) w.heap.size rfl ?_
    go_simp
    refine hK _ ?_
    clear hK K
    refine walk_float rfl rfl (fun K hK => ?_)
    refine gives_cell 3 _ rfl ⟨w.heap.size, 0, none⟩ (.int .i64 z) rfl box_int (fun V hV => hV.1.cell 0) ?_
    go_simp
    refine hK _ ?_
    clear hK K
    refine walk_float rfl rfl (fun K hK => ?_)
    refine gives_askfield _ 1 rfl (by omega) w.heap.size rfl ?_
    go_simp
    refine hK _ ?_
    clear hK K
    refine walk_float rfl rfl (fun K hK => ?_)
    refine gives_cell 22 _ rfl ⟨w.heap.size, 1, none⟩ (.slice p n1 c1) rfl apart.box_bytes (fun V hV => hV.1.cell 1) ?_
    go_simp
    refine hK _ ?_
    clear hK K
    refine walk_float rfl rfl (fun K hK => ?_)
    refine gives_askfield _ 2 rfl (by omega) w.heap.size rfl ?_
    go_simp
    refine hK _ ?_
    clear hK K
    refine walk_float rfl rfl (fun K hK => ?_)
    refine gives_cell 22 _ rfl ⟨w.heap.size, 2, none⟩ (.slice q n2 c2) rfl apart.box_bytes (fun V hV => hV.1.cell 2) ?_
    go_simp
    refine hK _ ?_
    clear hK K
    refine walk_float rfl rfl (fun K hK => ?_)
    refine gives_wholeSum _ rfl J rfl ?_
    go_simp
    refine hK _ ?_
    clear hK K
    refine walk_done rfl rfl (fun K hK => ?_)
    refine done_call4c _ _ _ _ _ _ rfl 13 rfl (enters_of Tryd.func13 (by kernel_rfl) rfl) _ _ _ _ rfl rfl rfl rfl _ (R1.out _ (HT.out.on P5.out.low) P5.out.low J (box_s32 (P5.out.bx (i := 0) rfl))) ?_
    rintro e w6 ⟨rfl, l6⟩
    have P6 := Lib.hid (P5.out.mono l6)
    clear l6 P5
    refine ⟨_, rfl, ⟨P6.out.bx (i := 1) rfl, P6.out.bx (i := 0) rfl⟩, ?_⟩
    go_simp
    refine hK _ _ ?_
    clear hK K
    refine walk_float rfl rfl (fun K hK => ?_)
    refine gives_not2 _ _ rfl true false rfl rfl ?_
    go_simp
    refine hK _ ?_
    clear hK K
    refine walk_float rfl rfl (fun K hK => ?_)
    refine gives_move _ rfl ?_
    go_simp
    refine hK _ ?_
    clear hK K
    refine walk_float rfl rfl (fun K hK => ?_)
    refine gives_askfield _ 0 rfl (by omega) w.heap.size rfl ?_
    go_simp
    refine hK _ ?_
    clear hK K
    refine walk_float rfl rfl (fun K hK => ?_)
    refine gives_cell 3 _ rfl ⟨w.heap.size, 0, none⟩ (.int .i64 z) rfl box_int (fun V hV => hV.1.cell 0) ?_
    go_simp
    refine hK _ ?_
    clear hK K
    refine walk_float rfl rfl (fun K hK => ?_)
    refine gives_askfield _ 1 rfl (by omega) w.heap.size rfl ?_
    go_simp
    refine hK _ ?_
    clear hK K
    refine walk_float rfl rfl (fun K hK => ?_)
    refine gives_cell 22 _ rfl ⟨w.heap.size, 1, none⟩ (.slice p n1 c1) rfl apart.box_bytes (fun V hV => hV.1.cell 1) ?_
    go_simp
    refine hK _ ?_
    clear hK K
    refine walk_float rfl rfl (fun K hK => ?_)
    refine gives_askfield _ 2 rfl (by omega) w.heap.size rfl ?_
    go_simp
    refine hK _ ?_
    clear hK K
    refine walk_float rfl rfl (fun K hK => ?_)
    refine gives_cell 22 _ rfl ⟨w.heap.size, 2, none⟩ (.slice q n2 c2) rfl apart.box_bytes (fun V hV => hV.1.cell 2) ?_
    go_simp
    refine hK _ ?_
    clear hK K
    refine walk_float rfl rfl (fun K hK => ?_)
    refine gives_uptoSum _ rfl J rfl ?_
    go_simp
    refine hK _ ?_
    clear hK K
    refine walk_done rfl rfl (fun K hK => ?_)
    refine done_call4c _ _ _ _ _ _ rfl 13 rfl (enters_of Tryd.func13 (by kernel_rfl) rfl) _ _ _ _ rfl rfl rfl rfl _ (R2.out _ (HT.out.on P6.out.low) P6.out.low J ((box_s32 (P6.out.bx (i := 0) rfl)).upto (k := 31) (by omega))) ?_
    rintro e w7 ⟨rfl, l7⟩
    have P7 := Lib.hid (P6.out.mono l7)
    clear l7 P6
    refine ⟨_, rfl, ⟨P7.out.bx (i := 1) rfl, P7.out.bx (i := 0) rfl⟩, ?_⟩
    go_simp
    refine hK _ _ ?_
    clear hK K
    refine walk_float rfl rfl (fun K hK => ?_)
    refine gives_pickF _ _ _ rfl rfl (.bool false) rfl ?_
    go_simp
    refine hK _ ?_
    clear hK K
    refine walk_nil ?_
    have d4 : w7.cell? ⟨w.heap.size, 4, none⟩ = some (.bool false) := (P7.out.bx (i := 1) rfl).cell 4
    have d5 : w7.cell? ⟨w.heap.size, 5, none⟩ = some (.int .i64 k) := (P7.out.bx (i := 1) rfl).cell 5
    go_wp2
    have P8 := Lib.hid P7.out.drew
    clear P7
    refine wp_region_sched [(0, true), (1, true), (2, true), (3, true), (4, true), (5, true), (6, true), (7, true), (9, true), (10, true), (11, true), (8, false), (12, false), (13, true), (14, true)] (fun V => BoxA V w.heap.size 30 #[.int .i64 z, .slice p n1 c1, .slice q n2 c2, .slice r n3 c3, .bool false, .int .i64 k] ∧ BoxA V J 25 (cellsOf .u8 (mk 32 A))) (by kernel_rfl) (by kernel_rfl) ⟨P8.out.bx (i := 1) rfl, P8.out.bx (i := 0) rfl⟩ ?_
    refine walk_float rfl rfl (fun K hK => ?_)
    refine gives_askfield _ 0 rfl (by omega) w.heap.size rfl ?_
    go_simp
    refine hK _ ?_
    clear hK K
    refine walk_float rfl rfl (fun K hK => ?_)
    refine gives_cell 3 _ rfl ⟨w.heap.size, 0, none⟩ (.int .i64 z) rfl box_int (fun V hV => hV.1.cell 0) ?_
    go_simp
    refine hK _ ?_
    clear hK K
    refine walk_float rfl rfl (fun K hK => ?_)
    refine gives_askfield _ 1 rfl (by omega) w.heap.size rfl ?_
    go_simp
    refine hK _ ?_
    clear hK K
    refine walk_float rfl rfl (fun K hK => ?_)
    refine gives_cell 22 _ rfl ⟨w.heap.size, 1, none⟩ (.slice p n1 c1) rfl apart.box_bytes (fun V hV => hV.1.cell 1) ?_
    go_simp
    refine hK _ ?_
    clear hK K
    refine walk_float rfl rfl (fun K hK => ?_)
    refine gives_askfield _ 2 rfl (by omega) w.heap.size rfl ?_
    go_simp
    refine hK _ ?_
    clear hK K
    refine walk_float rfl rfl (fun K hK => ?_)
    refine gives_cell 22 _ rfl ⟨w.heap.size, 2, none⟩ (.slice q n2 c2) rfl apart.box_bytes (fun V hV => hV.1.cell 2) ?_
    go_simp
    refine hK _ ?_
    clear hK K
    refine walk_float rfl rfl (fun K hK => ?_)
    refine gives_askfield _ 3 rfl (by omega) w.heap.size rfl ?_
    go_simp
    refine hK _ ?_
    clear hK K
    refine walk_float rfl rfl (fun K hK => ?_)
    refine gives_cell 22 _ rfl ⟨w.heap.size, 3, none⟩ (.slice r n3 c3) rfl apart.box_bytes (fun V hV => hV.1.cell 3) ?_
    go_simp
    refine hK _ ?_
    clear hK K
    refine walk_float rfl rfl (fun K hK => ?_)
    refine gives_wholeSum _ rfl J rfl ?_
    go_simp
    refine hK _ ?_
    clear hK K
    refine walk_float rfl rfl (fun K hK => ?_)
    refine gives_askfield _ 3 rfl (by omega) w.heap.size rfl ?_
    go_simp
    refine hK _ ?_
    clear hK K
    refine walk_float rfl rfl (fun K hK => ?_)
    refine gives_cell 22 _ rfl ⟨w.heap.size, 3, none⟩ (.slice r n3 c3) rfl apart.box_bytes (fun V hV => hV.1.cell 3) ?_
    go_simp
    refine hK _ ?_
    clear hK K
    refine walk_done rfl rfl (fun K hK => ?_)
    refine done_call4c _ _ _ _ _ _ rfl 13 rfl (enters_of Tryd.func13 (by kernel_rfl) rfl) _ _ _ _ rfl rfl rfl rfl _ (R4.out _ (HT.out.on P8.out.low) P8.out.low) ?_
    rintro e w9 ⟨rfl, l9⟩
    have P9 := Lib.hid (P8.out.mono l9)
    clear l9 P8
    refine ⟨_, rfl, ⟨P9.out.bx (i := 1) rfl, P9.out.bx (i := 0) rfl⟩, ?_⟩
    go_simp
    refine hK _ _ ?_
    clear hK K
    refine walk_done rfl rfl (fun K hK => ?_)
    refine done_enter2 _ _ _ _ rfl 14 rfl (enters_of Tryd.func14 (by kernel_rfl) rfl) _ _ rfl rfl _ (SM.out _ P9.out.low J (box_s32 (P9.out.bx (i := 0) rfl))) ?_
    rintro e wa ⟨rfl, rfl⟩
    refine ⟨_, rfl, ⟨P9.out.bx (i := 1) rfl, P9.out.bx (i := 0) rfl⟩, ?_⟩
    go_simp
    refine hK _ _ ?_
    clear hK K
    refine walk_float rfl rfl (fun K hK => ?_)
    refine gives_beql _ _ rfl D D true rfl rfl (by simp) ?_
    go_simp
    refine hK _ ?_
    clear hK K
    refine walk_float rfl rfl (fun K hK => ?_)
    refine gives_assign _ rfl ?_
    go_simp
    refine hK _ ?_
    clear hK K
    refine walk_nil ?_
    go_wp2
    go_ret
    exact ⟨rfl, P9.out.low⟩
theorem own : ownKnob Tryd.prog.godebug = none := by kernel_rfl
theorem laidOut : laidOutB Tryd.prog = true := by kernel_rfl
set_option maxRecDepth 100000 in
theorem lifted (os : Os) (started : os.Started) (H : Type) (enc : TypeId × Value → H) :
    ReturnsInHanded {} Tryd.checked os 4 .any (fun w args => (Rows.chapRightsSpec.pre enc Tryd.prog Tryd.f4 Rows.chapRightsRow.domain false w args ∧ laidMetH Tryd.prog Rows.chapRightsRow.laid w) ∧ sizedMet enc Tryd.prog Tryd.f4 (OpenSpec.ofChange Rows.chapRightsSpec) false w args) (Rows.chapRightsSpec.post enc Tryd.prog Tryd.f4 false true false false) := by
  refine returnsInHanded_of_change_and (C := Tryd.checked) (X := fun w _ => laidMetH Tryd.prog Rows.chapRightsRow.laid w) (fun _ _ _ hh h => h.of_heap hh) own started (by kernel_rfl) Tryd.func4
    (ChangeSpec.witness_shaped (enc := enc) (C := Tryd.checked) (os := os) (X := fun w _ => laidMetH Tryd.prog Rows.chapRightsRow.laid w) false (World.laidAll Tryd.prog os Rows.chapRightsRow.laid) #[.agg #[.int .i64 0, .slice none 0 0, .slice none 0 0, .slice none 0 0, .bool false, .int .i64 0]] 8 (World.laidAll_os _ _ _)
      (World.shaped_of_ZipB (by kernel_rfl) (by kernel_rfl)) (by kernel_rfl) (by kernel_rfl) (by kernel_rfl)
      (by rw [MakeChecks.laidMetH_plain _ _ _ (by kernel_rfl)]; exact laidMet_laidAll _ (by kernel_rfl) (by kernel_rfl))) ?_
  intro W base args ds gs before hval0 hW hcnd hsz hL _
  have hT := tab_of_laid hL
  have hval : ∀ (j : Nat) t v, Tryd.f4.params[j]? = some t → args[j]? = some v → Value.okWide Tryd.prog W .any base t v := hval0
  have hW' := hW
  obtain ⟨p, q, hA0, hV, rfl, hfz, hnd⟩ := hW
  have hA : DataW.TrodAll enc Tryd.prog W 0 (fun _ => true) true Tryd.f4.params.toList args.toList ds p := hA0
  rw [Tryd.params4] at hA hval
  obtain ⟨v0, vs0, d0, ds0, p0, q0, hargs, rfl, rfl, h0, r0⟩ := trodAll_cons hA
  obtain ⟨rfl, rfl, rfl⟩ := trodAll_nil r0
  obtain rfl : args = #[v0] := by cases args; simp_all
  obtain ⟨rfl, rfl⟩ := trodVars_none hV
  have k0 := h0
  have lt0 : ∀ x ∈ p0, x.block < W.heap.size := by obtain ⟨m, hm⟩ := k0; exact DataW.trod_lt m _ _ _ hm
  obtain ⟨z0, q0, n0, c0, g0, q0b, n0b, c0b, g0b, q0c, n0c, c0c, g0c, o0, k0k, rfl, w0, u0, s0, s0b, s0c, y0, y0b, y0c⟩ := open_asked2 (hval 0 30 v0 rfl rfl) h0 hsz (j := 0) (by rw [Tryd.params4]; rfl) rfl
  clear hA0 hval0
  refine (walk chapSpec hT z0 k0k o0 q0 n0 c0 g0 q0b n0b c0b g0b q0c n0c c0c g0c s0 s0b s0c y0 y0b y0c).mono fun e W' ⟨he, bel⟩ => ?_
  subst he
  exact ⟨_, rfl, _, _, _, [], _, [], hW', trodAll_mk1 (shut_bool Tryd.underlying4 _), (trodAll_cons_mk (Below.trod laidOut (by kernel_rfl) (of_decide_eq_true (by kernel_rfl)) k0 bel lt0) trodAll_mk0), rfl, bel.frame _, fun h => by cases h⟩

theorem over : Rows.chapRightsRow.holds Tryd.pinned (OpenSpec.ofChange Rows.chapRightsSpec) :=
  OpenClaim.holds_of_wide 4 Tryd.f4 rfl rfl rfl rfl rfl rfl rfl ⟨rfl, rfl, rfl, rfl, rfl⟩ rfl rfl rfl rfl rfl (by kernel_rfl) Tryd.func4 (by kernel_rfl)
    (of_decide_eq_true (by kernel_rfl)) (by unfold Func.isWrapper; first | (rw [if_pos (by decide +kernel)]; kernel_rfl) | (rw [if_neg (by decide +kernel)]; exact ⟨rfl, rfl⟩))
    (fun os started H enc _ => lifted os started H enc)

set_option maxRecDepth 100000 in
theorem proved : Rows.ChapRightsCardSaid :=
  Claim7.holds_tied_plain_at .later [] [.data] true (true, "fe2b54f320b46724d36697ff86eea2ee1142ca5255bc475a87788847d3b0ab21") false
    over (fun _ h => by cases h) (by kernel_rfl) (fun _ h => by cases h) chapRights_row_tie rfl ⟨rfl, rfl⟩ (by kernel_rfl) rfl
    (fun f fn hf hfn => by
      obtain rfl : f = 4 := Option.some.inj ((show Tryd.prog.funcNamed "citadel/citadellaw16.ChapRights" = some 4 by kernel_rfl).symm.trans hf) |>.symm
      obtain rfl : fn = Tryd.f4 := (Option.some.inj (Tryd.func4.symm.trans hfn)).symm
      exact ⟨by kernel_rfl, fun j t ht => by
        rw [Tryd.params4] at ht
        rcases j with _ | j
        · obtain rfl : t = 30 := by simpa using ht.symm
          exact (show Tryd.prog.wantsStandIn 30 = false by kernel_rfl)
        · simp at ht⟩)
    (by kernel_rfl)
end chapRights
end Go.Proofs.YtccpecajbfpjdaaDoor

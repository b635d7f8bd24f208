/- ChapBound: an answer isn't right for another number, secret or challenge of the same lengths, unless two digests are the same. Conditions: the package's variable holds the constants; package chap answers as its spec says. -/
import Derived.Test.YtccpecajbfpjdaaDoorChLw
import Derived.Test.YtccpecajbfpjdaaDoorChOp2
import Derived.Test.YtccpecajbfpjdaaDoorTie
import Derived.Test.YtccpecajbfpjdaaDoorCards
namespace Go.Proofs.YtccpecajbfpjdaaDoor
open Go.ChangeShapes Go.WideShapes Go.ChangeAt Go.RowKit Go.Shelf
namespace chapBound
set_option linter.unusedVariables false
set_option linter.unusedSimpArgs false
attribute [local irreducible] ansT ansD mk zeroK
attribute [local go_sem] Oper.semAt_some
def Row (w : World) (p : Option Addr) (n c : Nat) (g : Nat → Nat) : Prop := ((∀ i, i < n → g i < 256) ∧ n ≤ c ∧ n ≤ 140737488351232) ∧ BytesAt w p n g
set_option maxRecDepth 100000 in
set_option maxHeartbeats 4000000 in
theorem long (CS : ChapSpec) {w : World} (hT : TabAt w) (z : Int) (p : Option Addr) (n1 c1 : Nat) (g1 : Nat → Nat) (q : Option Addr) (n2 c2 : Nat) (g2 : Nat → Nat) (r : Option Addr) (n3 c3 : Nat) (g3 : Nat → Nat) (o : Bool) (k : Int) (zy : Int) (py : Option Addr) (m1 c1y : Nat) (g1y : Nat → Nat) (qy : Option Addr) (m2 c2y : Nat) (g2y : Nat → Nat) (ry : Option Addr) (n3y c3y : Nat) (g3y : Nat → Nat) (oy : Bool) (ky : Int) (k1 : Row w p n1 c1 g1) (k2 : Row w q n2 c2 g2) (k3 : Row w py m1 c1y g1y) (k4 : Row w qy m2 c2y g2y) (hl : ¬ n1 + n2 + m1 + m2 ≤ 4096) :
    Calls Tryd.prog 5 #[.agg #[.int .i64 z, .slice p n1 c1, .slice q n2 c2, .slice r n3 c3, .bool o, .int .i64 k], .agg #[.int .i64 zy, .slice py m1 c1y, .slice qy m2 c2y, .slice ry n3y c3y, .bool oy, .int .i64 ky]] w fun e w' => e = .returned (.bool true) ∧ Below w.heap.size w w' := by
  have t1 : IntKind.i64.wrap ((n1 : Int) + (n2 : Int)) = (n1 : Int) + (n2 : Int) := IntWalk.i64_in _ (by have := k1.1.2.2; have := k2.1.2.2; omega)
  have t2 : IntKind.i64.wrap ((n1 : Int) + (n2 : Int) + (m1 : Int)) = (n1 : Int) + (n2 : Int) + (m1 : Int) := IntWalk.i64_in _ (by have := k1.1.2.2; have := k2.1.2.2; have := k3.1.2.2; omega)
  have t3 : IntKind.i64.wrap ((n1 : Int) + (n2 : Int) + (m1 : Int) + (m2 : Int)) = (n1 : Int) + (n2 : Int) + (m1 : Int) + (m2 : Int) := IntWalk.i64_in _ (by have := k1.1.2.2; have := k2.1.2.2; have := k3.1.2.2; have := k4.1.2.2; omega)
  have f1 : decide ((4096 : Int) < (n1 : Int) + (n2 : Int) + (m1 : Int) + (m2 : Int)) = true := by simp; omega
  clear hT CS k1 k2 k3 k4
  go_enter Tryd.func5, Tryd.ntmps5
  go_wp2_with (first
  | (with_reducible show wpList _ _ _ (⟨some 2, Op.box 30 _, _, _, _, none⟩ :: _) _ _
     refine wpList_boxA_of rfl _ rfl #[.int .i64 z, .slice p n1 c1, .slice q n2 c2, .slice r n3 c3, .bool o, .int .i64 k] rfl ?_
     intro w1 x1 l1 s1
     have P1 := Lib.hid (show LwB w [bxO w.heap.size 30 #[.int .i64 z, .slice p n1 c1, .slice q n2 c2, .slice r n3 c3, .bool o, .int .i64 k]] w1 from (LwB.none w).add l1 x1 (Nat.le_refl _))
     clear x1 l1 s1)
  | (with_reducible show wpList _ _ _ (⟨some 3, Op.box 30 _, _, _, _, none⟩ :: _) _ _
     refine wpList_boxA_of rfl _ rfl #[.int .i64 zy, .slice py m1 c1y, .slice qy m2 c2y, .slice ry n3y c3y, .bool oy, .int .i64 ky] rfl ?_
     intro w2 x2 l2 s2
     have P2 := Lib.hid (show LwB w [bxO w1.heap.size 30 #[.int .i64 zy, .slice py m1 c1y, .slice qy m2 c2y, .slice ry n3y c3y, .bool oy, .int .i64 ky], bxO w.heap.size 30 #[.int .i64 z, .slice p n1 c1, .slice q n2 c2, .slice r n3 c3, .bool o, .int .i64 k]] w2 from P1.out.add l2 x2 (Nat.le_refl _))
     clear x2 l2 s2 P1
     generalize w1.heap.size = J at *
     have d0 : w2.cell? ⟨w.heap.size, 0, none⟩ = some (.int .i64 z) := (P2.out.bx (i := 1) rfl).cell 0
     have d1 : w2.cell? ⟨w.heap.size, 1, none⟩ = some (.slice p n1 c1) := (P2.out.bx (i := 1) rfl).cell 1
     have d2 : w2.cell? ⟨w.heap.size, 2, none⟩ = some (.slice q n2 c2) := (P2.out.bx (i := 1) rfl).cell 2
     have e0 : w2.cell? ⟨J, 0, none⟩ = some (.int .i64 zy) := (P2.out.bx (i := 0) rfl).cell 0
     have e1 : w2.cell? ⟨J, 1, none⟩ = some (.slice py m1 c1y) := (P2.out.bx (i := 0) rfl).cell 1
     have e2 : w2.cell? ⟨J, 2, none⟩ = some (.slice qy m2 c2y) := (P2.out.bx (i := 0) rfl).cell 2
     skip))
  go_ret
  exact ⟨rfl, P2.out.low⟩
set_option maxRecDepth 100000 in
set_option maxHeartbeats 4000000 in
theorem unlikeA (CS : ChapSpec) {w : World} (hT : TabAt w) (z : Int) (p : Option Addr) (n1 c1 : Nat) (g1 : Nat → Nat) (q : Option Addr) (n2 c2 : Nat) (g2 : Nat → Nat) (r : Option Addr) (n3 c3 : Nat) (g3 : Nat → Nat) (o : Bool) (k : Int) (zy : Int) (py : Option Addr) (m1 c1y : Nat) (g1y : Nat → Nat) (qy : Option Addr) (m2 c2y : Nat) (g2y : Nat → Nat) (ry : Option Addr) (n3y c3y : Nat) (g3y : Nat → Nat) (oy : Bool) (ky : Int) (k1 : Row w p n1 c1 g1) (k2 : Row w q n2 c2 g2) (k3 : Row w py m1 c1y g1y) (k4 : Row w qy m2 c2y g2y) (hl : n1 + n2 + m1 + m2 ≤ 4096) (hn : n1 ≠ m1) :
    Calls Tryd.prog 5 #[.agg #[.int .i64 z, .slice p n1 c1, .slice q n2 c2, .slice r n3 c3, .bool o, .int .i64 k], .agg #[.int .i64 zy, .slice py m1 c1y, .slice qy m2 c2y, .slice ry n3y c3y, .bool oy, .int .i64 ky]] w fun e w' => e = .returned (.bool true) ∧ Below w.heap.size w w' := by
  have t1 : IntKind.i64.wrap ((n1 : Int) + (n2 : Int)) = (n1 : Int) + (n2 : Int) := IntWalk.i64_in _ (by have := k1.1.2.2; have := k2.1.2.2; omega)
  have t2 : IntKind.i64.wrap ((n1 : Int) + (n2 : Int) + (m1 : Int)) = (n1 : Int) + (n2 : Int) + (m1 : Int) := IntWalk.i64_in _ (by have := k1.1.2.2; have := k2.1.2.2; have := k3.1.2.2; omega)
  have t3 : IntKind.i64.wrap ((n1 : Int) + (n2 : Int) + (m1 : Int) + (m2 : Int)) = (n1 : Int) + (n2 : Int) + (m1 : Int) + (m2 : Int) := IntWalk.i64_in _ (by have := k1.1.2.2; have := k2.1.2.2; have := k3.1.2.2; have := k4.1.2.2; omega)
  have f1 : decide ((4096 : Int) < (n1 : Int) + (n2 : Int) + (m1 : Int) + (m2 : Int)) = false := by simp; omega
  obtain ⟨⟨h1, hc1, b1⟩, hp⟩ := k1
  obtain ⟨⟨h2, hc2, b2⟩, hq⟩ := k2
  obtain ⟨⟨h3, hc3, b3⟩, hpy⟩ := k3
  obtain ⟨⟨h4, hc4, b4⟩, hqy⟩ := k4
  have HT := Lib.hid hT
  have RF := Lib.hid (fun (W : World) (hb : Below w.heap.size w W) => refAnswer_any (c1 := c1) (c2 := c2) z (by omega) h1 h2 (hp.below hb) (hq.below hb))
  have R1 := Lib.hid (fun (W : World) (t : TabAt W) (hb : Below w.heap.size w W) (J : Nat) (h : BytesAt W (some ⟨J, 0, none⟩) 32 (ansD z n1 g1 n2 g2)) => (by
    have h' := CS.right t z (c3 := 32) (n3 := 32) (g3 := ansD z n1 g1 n2 g2) (by omega) hc1 hc2 (by omega) h1 h2 (fun j _ => ansD_lt _ _ _ _ _ j) (hp.below hb) (hq.below hb) h
    rw [decide_eq_true rfl] at h'
    exact (show Calls Tryd.prog 13 #[.int .i64 z, .slice p n1 c1, .slice q n2 c2, .slice (some ⟨J, 0, none⟩) 32 32] W fun e W' => e = .returned (.bool true) ∧ Below W.heap.size W W' from h')))
  clear hp hq hpy hqy h1 h2 h3 h4 hT CS hc1 hc2 hc3 hc4 b1 b2 b3 b4
  generalize ansD z n1 g1 n2 g2 = A at *
  have v1 : (((n1 : Int) != (m1 : Int)) : Bool) = true := by simp; omega
  have v2 : ((n1 != m1) : Bool) = true := by simp; omega
  have v3 : ¬ n1 = m1 := by omega
  clear hn hl
  go_enter Tryd.func5, Tryd.ntmps5
  go_wp2_with (first
  | (with_reducible show wpList _ _ _ (⟨some 2, Op.box 30 _, _, _, _, none⟩ :: _) _ _
     refine wpList_boxA_of rfl _ rfl #[.int .i64 z, .slice p n1 c1, .slice q n2 c2, .slice r n3 c3, .bool o, .int .i64 k] rfl ?_
     intro w1 x1 l1 s1
     have P1 := Lib.hid (show LwB w [bxO w.heap.size 30 #[.int .i64 z, .slice p n1 c1, .slice q n2 c2, .slice r n3 c3, .bool o, .int .i64 k]] w1 from (LwB.none w).add l1 x1 (Nat.le_refl _))
     clear x1 l1 s1)
  | (with_reducible show wpList _ _ _ (⟨some 3, Op.box 30 _, _, _, _, none⟩ :: _) _ _
     refine wpList_boxA_of rfl _ rfl #[.int .i64 zy, .slice py m1 c1y, .slice qy m2 c2y, .slice ry n3y c3y, .bool oy, .int .i64 ky] rfl ?_
     intro w2 x2 l2 s2
     have P2 := Lib.hid (show LwB w [bxO w1.heap.size 30 #[.int .i64 zy, .slice py m1 c1y, .slice qy m2 c2y, .slice ry n3y c3y, .bool oy, .int .i64 ky], bxO w.heap.size 30 #[.int .i64 z, .slice p n1 c1, .slice q n2 c2, .slice r n3 c3, .bool o, .int .i64 k]] w2 from P1.out.add l2 x2 (Nat.le_refl _))
     clear x2 l2 s2 P1
     generalize w1.heap.size = J at *
     have d0 : w2.cell? ⟨w.heap.size, 0, none⟩ = some (.int .i64 z) := (P2.out.bx (i := 1) rfl).cell 0
     have d1 : w2.cell? ⟨w.heap.size, 1, none⟩ = some (.slice p n1 c1) := (P2.out.bx (i := 1) rfl).cell 1
     have d2 : w2.cell? ⟨w.heap.size, 2, none⟩ = some (.slice q n2 c2) := (P2.out.bx (i := 1) rfl).cell 2
     have e0 : w2.cell? ⟨J, 0, none⟩ = some (.int .i64 zy) := (P2.out.bx (i := 0) rfl).cell 0
     have e1 : w2.cell? ⟨J, 1, none⟩ = some (.slice py m1 c1y) := (P2.out.bx (i := 0) rfl).cell 1
     have e2 : w2.cell? ⟨J, 2, none⟩ = some (.slice qy m2 c2y) := (P2.out.bx (i := 0) rfl).cell 2
     skip)
  | (go_at_call 11
     refine (RF.out w2 P2.out.low).mono ?_; rintro e w3 ⟨rfl, l3⟩
     have P3 := Lib.hid (P2.out.mono l3)
     clear l3 P2 RF d0 d1 d2 e0 e1 e2)
  | (with_reducible show wpList _ _ _ (⟨some 5, Op.alloc 25, _, _, _, _⟩ :: _) _ _
     refine wpList_boxA_new rowSum rfl rfl _ rfl ?_
     intro w4 x4 l4 s4
     have P4 := Lib.hid (show LwB w [bxO w3.heap.size 25 (cellsOf .u8 (mk 32 zeroK)), bxO J 30 #[.int .i64 zy, .slice py m1 c1y, .slice qy m2 c2y, .slice ry n3y c3y, .bool oy, .int .i64 ky], bxO w.heap.size 30 #[.int .i64 z, .slice p n1 c1, .slice q n2 c2, .slice r n3 c3, .bool o, .int .i64 k]] w4 from P3.out.add l4 x4 (Nat.le_refl _))
     clear x4 l4 s4 P3
     generalize w3.heap.size = J5 at *)
  | (with_reducible show wpList _ _ _ (⟨_, Op.store 25 (.tmp 5) _, _, _, _, none⟩ :: _) _ _
     refine wpList_boxA_put rowSum rfl _ _ rfl rfl J5 (cellsOf .u8 (mk 32 A)) (cellsOf .u8 (mk 32 zeroK)) (s32_size _) (s32_one _) (s32_size _) rfl rfl (P4.out.bx (i := 0) rfl) ?_
     intro w5 x5 k5 s5
     have P5 := Lib.hid (show LwB w [bxO J5 25 (cellsOf .u8 (mk 32 A)), bxO J 30 #[.int .i64 zy, .slice py m1 c1y, .slice qy m2 c2y, .slice ry n3y c3y, .bool oy, .int .i64 ky], bxO w.heap.size 30 #[.int .i64 z, .slice p n1 c1, .slice q n2 c2, .slice r n3 c3, .bool o, .int .i64 k]] w5 from P4.out.put 0 rfl x5 k5)
     clear x5 k5 s5 P4))
  have P6 := Lib.hid P5.out.drew
  clear P5
  refine wp_region_sched [(0, true), (1, true), (2, true), (3, true), (4, true), (5, true), (6, true), (7, false), (8, true)] (fun V => BoxA V w.heap.size 30 #[.int .i64 z, .slice p n1 c1, .slice q n2 c2, .slice r n3 c3, .bool o, .int .i64 k]) (by kernel_rfl) (by kernel_rfl) (P6.out.bx (i := 2) rfl) ?_
  refine walk_float rfl rfl (fun K hK => ?_)
  refine gives_askfield _ 0 rfl (by omega) w.heap.size rfl ?_
  go_simp
  refine hK _ ?_
  clear hK K
  refine walk_float rfl rfl (fun K hK => ?_)
  refine gives_cell 3 _ rfl ⟨w.heap.size, 0, none⟩ (.int .i64 z) rfl box_int (fun V hV => hV.cell 0) ?_
  go_simp
  refine hK _ ?_
  clear hK K
  refine walk_float rfl rfl (fun K hK => ?_)
  refine gives_askfield _ 1 rfl (by omega) w.heap.size rfl ?_
  go_simp
  refine hK _ ?_
  clear hK K
  refine walk_float rfl rfl (fun K hK => ?_)
  refine gives_cell 22 _ rfl ⟨w.heap.size, 1, none⟩ (.slice p n1 c1) rfl apart.box_bytes (fun V hV => hV.cell 1) ?_
  go_simp
  refine hK _ ?_
  clear hK K
  refine walk_float rfl rfl (fun K hK => ?_)
  refine gives_askfield _ 2 rfl (by omega) w.heap.size rfl ?_
  go_simp
  refine hK _ ?_
  clear hK K
  refine walk_float rfl rfl (fun K hK => ?_)
  refine gives_cell 22 _ rfl ⟨w.heap.size, 2, none⟩ (.slice q n2 c2) rfl apart.box_bytes (fun V hV => hV.cell 2) ?_
  go_simp
  refine hK _ ?_
  clear hK K
  refine walk_float rfl rfl (fun K hK => ?_)
  refine gives_wholeSum _ rfl J5 rfl ?_
  go_simp
  refine hK _ ?_
  clear hK K
  refine walk_done rfl rfl (fun K hK => ?_)
  refine done_call4c _ _ _ _ _ _ rfl 13 rfl (enters_of Tryd.func13 (by kernel_rfl) rfl) _ _ _ _ rfl rfl rfl rfl _ (R1.out _ (HT.out.on P6.out.low) P6.out.low J5 (box_s32 (P6.out.bx (i := 0) rfl))) ?_
  rintro e w7 ⟨rfl, l7⟩
  have P7 := Lib.hid (P6.out.mono l7)
  clear l7 P6
  refine ⟨_, rfl, P7.out.bx (i := 2) rfl, ?_⟩
  go_simp
  refine hK _ _ ?_
  clear hK K
  refine walk_float rfl rfl (fun K hK => ?_)
  refine gives_not2 _ _ rfl true false rfl rfl ?_
  go_simp
  refine hK _ ?_
  clear hK K
  refine walk_nil ?_
  have d0 : w7.cell? ⟨w.heap.size, 0, none⟩ = some (.int .i64 z) := (P7.out.bx (i := 2) rfl).cell 0
  have d1 : w7.cell? ⟨w.heap.size, 1, none⟩ = some (.slice p n1 c1) := (P7.out.bx (i := 2) rfl).cell 1
  have d2 : w7.cell? ⟨w.heap.size, 2, none⟩ = some (.slice q n2 c2) := (P7.out.bx (i := 2) rfl).cell 2
  have e0 : w7.cell? ⟨J, 0, none⟩ = some (.int .i64 zy) := (P7.out.bx (i := 1) rfl).cell 0
  have e1 : w7.cell? ⟨J, 1, none⟩ = some (.slice py m1 c1y) := (P7.out.bx (i := 1) rfl).cell 1
  have e2 : w7.cell? ⟨J, 2, none⟩ = some (.slice qy m2 c2y) := (P7.out.bx (i := 1) rfl).cell 2
  go_wp2
  go_ret
  exact ⟨rfl, P7.out.low⟩
set_option maxRecDepth 100000 in
set_option maxHeartbeats 4000000 in
theorem unlikeB (CS : ChapSpec) {w : World} (hT : TabAt w) (z : Int) (p : Option Addr) (n1 c1 : Nat) (g1 : Nat → Nat) (q : Option Addr) (n2 c2 : Nat) (g2 : Nat → Nat) (r : Option Addr) (n3 c3 : Nat) (g3 : Nat → Nat) (o : Bool) (k : Int) (zy : Int) (py : Option Addr) (c1y : Nat) (g1y : Nat → Nat) (qy : Option Addr) (m2 c2y : Nat) (g2y : Nat → Nat) (ry : Option Addr) (n3y c3y : Nat) (g3y : Nat → Nat) (oy : Bool) (ky : Int) (k1 : Row w p n1 c1 g1) (k2 : Row w q n2 c2 g2) (k3 : Row w py n1 c1y g1y) (k4 : Row w qy m2 c2y g2y) (hl : n1 + n2 + n1 + m2 ≤ 4096) (hn : n2 ≠ m2) :
    Calls Tryd.prog 5 #[.agg #[.int .i64 z, .slice p n1 c1, .slice q n2 c2, .slice r n3 c3, .bool o, .int .i64 k], .agg #[.int .i64 zy, .slice py n1 c1y, .slice qy m2 c2y, .slice ry n3y c3y, .bool oy, .int .i64 ky]] w fun e w' => e = .returned (.bool true) ∧ Below w.heap.size w w' := by
  have t1 : IntKind.i64.wrap ((n1 : Int) + (n2 : Int)) = (n1 : Int) + (n2 : Int) := IntWalk.i64_in _ (by have := k1.1.2.2; have := k2.1.2.2; omega)
  have t2 : IntKind.i64.wrap ((n1 : Int) + (n2 : Int) + (n1 : Int)) = (n1 : Int) + (n2 : Int) + (n1 : Int) := IntWalk.i64_in _ (by have := k1.1.2.2; have := k2.1.2.2; have := k3.1.2.2; omega)
  have t3 : IntKind.i64.wrap ((n1 : Int) + (n2 : Int) + (n1 : Int) + (m2 : Int)) = (n1 : Int) + (n2 : Int) + (n1 : Int) + (m2 : Int) := IntWalk.i64_in _ (by have := k1.1.2.2; have := k2.1.2.2; have := k3.1.2.2; have := k4.1.2.2; omega)
  have f1 : decide ((4096 : Int) < (n1 : Int) + (n2 : Int) + (n1 : Int) + (m2 : Int)) = false := by simp; omega
  obtain ⟨⟨h1, hc1, b1⟩, hp⟩ := k1
  obtain ⟨⟨h2, hc2, b2⟩, hq⟩ := k2
  obtain ⟨⟨h3, hc3, b3⟩, hpy⟩ := k3
  obtain ⟨⟨h4, hc4, b4⟩, hqy⟩ := k4
  have HT := Lib.hid hT
  have RF := Lib.hid (fun (W : World) (hb : Below w.heap.size w W) => refAnswer_any (c1 := c1) (c2 := c2) z (by omega) h1 h2 (hp.below hb) (hq.below hb))
  have R1 := Lib.hid (fun (W : World) (t : TabAt W) (hb : Below w.heap.size w W) (J : Nat) (h : BytesAt W (some ⟨J, 0, none⟩) 32 (ansD z n1 g1 n2 g2)) => (by
    have h' := CS.right t z (c3 := 32) (n3 := 32) (g3 := ansD z n1 g1 n2 g2) (by omega) hc1 hc2 (by omega) h1 h2 (fun j _ => ansD_lt _ _ _ _ _ j) (hp.below hb) (hq.below hb) h
    rw [decide_eq_true rfl] at h'
    exact (show Calls Tryd.prog 13 #[.int .i64 z, .slice p n1 c1, .slice q n2 c2, .slice (some ⟨J, 0, none⟩) 32 32] W fun e W' => e = .returned (.bool true) ∧ Below W.heap.size W W' from h')))
  clear hp hq hpy hqy h1 h2 h3 h4 hT CS hc1 hc2 hc3 hc4 b1 b2 b3 b4
  generalize ansD z n1 g1 n2 g2 = A at *
  have v1 : (((n2 : Int) != (m2 : Int)) : Bool) = true := by simp; omega
  have v2 : ((n2 != m2) : Bool) = true := by simp; omega
  have v3 : ¬ n2 = m2 := by omega
  clear hn hl
  go_enter Tryd.func5, Tryd.ntmps5
  go_wp2_with (first
  | (with_reducible show wpList _ _ _ (⟨some 2, Op.box 30 _, _, _, _, none⟩ :: _) _ _
     refine wpList_boxA_of rfl _ rfl #[.int .i64 z, .slice p n1 c1, .slice q n2 c2, .slice r n3 c3, .bool o, .int .i64 k] rfl ?_
     intro w1 x1 l1 s1
     have P1 := Lib.hid (show LwB w [bxO w.heap.size 30 #[.int .i64 z, .slice p n1 c1, .slice q n2 c2, .slice r n3 c3, .bool o, .int .i64 k]] w1 from (LwB.none w).add l1 x1 (Nat.le_refl _))
     clear x1 l1 s1)
  | (with_reducible show wpList _ _ _ (⟨some 3, Op.box 30 _, _, _, _, none⟩ :: _) _ _
     refine wpList_boxA_of rfl _ rfl #[.int .i64 zy, .slice py n1 c1y, .slice qy m2 c2y, .slice ry n3y c3y, .bool oy, .int .i64 ky] rfl ?_
     intro w2 x2 l2 s2
     have P2 := Lib.hid (show LwB w [bxO w1.heap.size 30 #[.int .i64 zy, .slice py n1 c1y, .slice qy m2 c2y, .slice ry n3y c3y, .bool oy, .int .i64 ky], bxO w.heap.size 30 #[.int .i64 z, .slice p n1 c1, .slice q n2 c2, .slice r n3 c3, .bool o, .int .i64 k]] w2 from P1.out.add l2 x2 (Nat.le_refl _))
     clear x2 l2 s2 P1
     generalize w1.heap.size = J at *
     have d0 : w2.cell? ⟨w.heap.size, 0, none⟩ = some (.int .i64 z) := (P2.out.bx (i := 1) rfl).cell 0
     have d1 : w2.cell? ⟨w.heap.size, 1, none⟩ = some (.slice p n1 c1) := (P2.out.bx (i := 1) rfl).cell 1
     have d2 : w2.cell? ⟨w.heap.size, 2, none⟩ = some (.slice q n2 c2) := (P2.out.bx (i := 1) rfl).cell 2
     have e0 : w2.cell? ⟨J, 0, none⟩ = some (.int .i64 zy) := (P2.out.bx (i := 0) rfl).cell 0
     have e1 : w2.cell? ⟨J, 1, none⟩ = some (.slice py n1 c1y) := (P2.out.bx (i := 0) rfl).cell 1
     have e2 : w2.cell? ⟨J, 2, none⟩ = some (.slice qy m2 c2y) := (P2.out.bx (i := 0) rfl).cell 2
     skip)
  | (go_at_call 11
     refine (RF.out w2 P2.out.low).mono ?_; rintro e w3 ⟨rfl, l3⟩
     have P3 := Lib.hid (P2.out.mono l3)
     clear l3 P2 RF d0 d1 d2 e0 e1 e2)
  | (with_reducible show wpList _ _ _ (⟨some 5, Op.alloc 25, _, _, _, _⟩ :: _) _ _
     refine wpList_boxA_new rowSum rfl rfl _ rfl ?_
     intro w4 x4 l4 s4
     have P4 := Lib.hid (show LwB w [bxO w3.heap.size 25 (cellsOf .u8 (mk 32 zeroK)), bxO J 30 #[.int .i64 zy, .slice py n1 c1y, .slice qy m2 c2y, .slice ry n3y c3y, .bool oy, .int .i64 ky], bxO w.heap.size 30 #[.int .i64 z, .slice p n1 c1, .slice q n2 c2, .slice r n3 c3, .bool o, .int .i64 k]] w4 from P3.out.add l4 x4 (Nat.le_refl _))
     clear x4 l4 s4 P3
     generalize w3.heap.size = J5 at *)
  | (with_reducible show wpList _ _ _ (⟨_, Op.store 25 (.tmp 5) _, _, _, _, none⟩ :: _) _ _
     refine wpList_boxA_put rowSum rfl _ _ rfl rfl J5 (cellsOf .u8 (mk 32 A)) (cellsOf .u8 (mk 32 zeroK)) (s32_size _) (s32_one _) (s32_size _) rfl rfl (P4.out.bx (i := 0) rfl) ?_
     intro w5 x5 k5 s5
     have P5 := Lib.hid (show LwB w [bxO J5 25 (cellsOf .u8 (mk 32 A)), bxO J 30 #[.int .i64 zy, .slice py n1 c1y, .slice qy m2 c2y, .slice ry n3y c3y, .bool oy, .int .i64 ky], bxO w.heap.size 30 #[.int .i64 z, .slice p n1 c1, .slice q n2 c2, .slice r n3 c3, .bool o, .int .i64 k]] w5 from P4.out.put 0 rfl x5 k5)
     clear x5 k5 s5 P4))
  have P6 := Lib.hid P5.out.drew
  clear P5
  refine wp_region_sched [(0, true), (1, true), (2, true), (3, true), (4, true), (5, true), (6, true), (7, false), (8, true)] (fun V => BoxA V w.heap.size 30 #[.int .i64 z, .slice p n1 c1, .slice q n2 c2, .slice r n3 c3, .bool o, .int .i64 k]) (by kernel_rfl) (by kernel_rfl) (P6.out.bx (i := 2) rfl) ?_
  refine walk_float rfl rfl (fun K hK => ?_)
  refine gives_askfield _ 0 rfl (by omega) w.heap.size rfl ?_
  go_simp
  refine hK _ ?_
  clear hK K
  refine walk_float rfl rfl (fun K hK => ?_)
  refine gives_cell 3 _ rfl ⟨w.heap.size, 0, none⟩ (.int .i64 z) rfl box_int (fun V hV => hV.cell 0) ?_
  go_simp
  refine hK _ ?_
  clear hK K
  refine walk_float rfl rfl (fun K hK => ?_)
  refine gives_askfield _ 1 rfl (by omega) w.heap.size rfl ?_
  go_simp
  refine hK _ ?_
  clear hK K
  refine walk_float rfl rfl (fun K hK => ?_)
  refine gives_cell 22 _ rfl ⟨w.heap.size, 1, none⟩ (.slice p n1 c1) rfl apart.box_bytes (fun V hV => hV.cell 1) ?_
  go_simp
  refine hK _ ?_
  clear hK K
  refine walk_float rfl rfl (fun K hK => ?_)
  refine gives_askfield _ 2 rfl (by omega) w.heap.size rfl ?_
  go_simp
  refine hK _ ?_
  clear hK K
  refine walk_float rfl rfl (fun K hK => ?_)
  refine gives_cell 22 _ rfl ⟨w.heap.size, 2, none⟩ (.slice q n2 c2) rfl apart.box_bytes (fun V hV => hV.cell 2) ?_
  go_simp
  refine hK _ ?_
  clear hK K
  refine walk_float rfl rfl (fun K hK => ?_)
  refine gives_wholeSum _ rfl J5 rfl ?_
  go_simp
  refine hK _ ?_
  clear hK K
  refine walk_done rfl rfl (fun K hK => ?_)
  refine done_call4c _ _ _ _ _ _ rfl 13 rfl (enters_of Tryd.func13 (by kernel_rfl) rfl) _ _ _ _ rfl rfl rfl rfl _ (R1.out _ (HT.out.on P6.out.low) P6.out.low J5 (box_s32 (P6.out.bx (i := 0) rfl))) ?_
  rintro e w7 ⟨rfl, l7⟩
  have P7 := Lib.hid (P6.out.mono l7)
  clear l7 P6
  refine ⟨_, rfl, P7.out.bx (i := 2) rfl, ?_⟩
  go_simp
  refine hK _ _ ?_
  clear hK K
  refine walk_float rfl rfl (fun K hK => ?_)
  refine gives_not2 _ _ rfl true false rfl rfl ?_
  go_simp
  refine hK _ ?_
  clear hK K
  refine walk_nil ?_
  have d0 : w7.cell? ⟨w.heap.size, 0, none⟩ = some (.int .i64 z) := (P7.out.bx (i := 2) rfl).cell 0
  have d1 : w7.cell? ⟨w.heap.size, 1, none⟩ = some (.slice p n1 c1) := (P7.out.bx (i := 2) rfl).cell 1
  have d2 : w7.cell? ⟨w.heap.size, 2, none⟩ = some (.slice q n2 c2) := (P7.out.bx (i := 2) rfl).cell 2
  have e0 : w7.cell? ⟨J, 0, none⟩ = some (.int .i64 zy) := (P7.out.bx (i := 1) rfl).cell 0
  have e1 : w7.cell? ⟨J, 1, none⟩ = some (.slice py n1 c1y) := (P7.out.bx (i := 1) rfl).cell 1
  have e2 : w7.cell? ⟨J, 2, none⟩ = some (.slice qy m2 c2y) := (P7.out.bx (i := 1) rfl).cell 2
  go_wp2
  go_ret
  exact ⟨rfl, P7.out.low⟩
set_option maxRecDepth 100000 in
set_option maxHeartbeats 4000000 in
theorem like1 (CS : ChapSpec) {w : World} (hT : TabAt w) (z : Int) (p : Option Addr) (n1 c1 : Nat) (g1 : Nat → Nat) (q : Option Addr) (n2 c2 : Nat) (g2 : Nat → Nat) (r : Option Addr) (n3 c3 : Nat) (g3 : Nat → Nat) (o : Bool) (k : Int) (zy : Int) (py : Option Addr) (c1y : Nat) (g1y : Nat → Nat) (qy : Option Addr) (c2y : Nat) (g2y : Nat → Nat) (ry : Option Addr) (n3y c3y : Nat) (g3y : Nat → Nat) (oy : Bool) (ky : Int) (k1 : Row w p n1 c1 g1) (k2 : Row w q n2 c2 g2) (k3 : Row w py n1 c1y g1y) (k4 : Row w qy n2 c2y g2y) (hl : n1 + n2 + n1 + n2 ≤ 4096) (hz : IntKind.u8.wrap z ≠ IntKind.u8.wrap zy) :
    Calls Tryd.prog 5 #[.agg #[.int .i64 z, .slice p n1 c1, .slice q n2 c2, .slice r n3 c3, .bool o, .int .i64 k], .agg #[.int .i64 zy, .slice py n1 c1y, .slice qy n2 c2y, .slice ry n3y c3y, .bool oy, .int .i64 ky]] w fun e w' => e = .returned (.bool true) ∧ Below w.heap.size w w' := by
  have t1 : IntKind.i64.wrap ((n1 : Int) + (n2 : Int)) = (n1 : Int) + (n2 : Int) := IntWalk.i64_in _ (by have := k1.1.2.2; have := k2.1.2.2; omega)
  have t2 : IntKind.i64.wrap ((n1 : Int) + (n2 : Int) + (n1 : Int)) = (n1 : Int) + (n2 : Int) + (n1 : Int) := IntWalk.i64_in _ (by have := k1.1.2.2; have := k2.1.2.2; have := k3.1.2.2; omega)
  have t3 : IntKind.i64.wrap ((n1 : Int) + (n2 : Int) + (n1 : Int) + (n2 : Int)) = (n1 : Int) + (n2 : Int) + (n1 : Int) + (n2 : Int) := IntWalk.i64_in _ (by have := k1.1.2.2; have := k2.1.2.2; have := k3.1.2.2; have := k4.1.2.2; omega)
  have f1 : decide ((4096 : Int) < (n1 : Int) + (n2 : Int) + (n1 : Int) + (n2 : Int)) = false := by simp; omega
  obtain ⟨⟨h1, hc1, b1⟩, hp⟩ := k1
  obtain ⟨⟨h2, hc2, b2⟩, hq⟩ := k2
  obtain ⟨⟨h3, hc3, b3⟩, hpy⟩ := k3
  obtain ⟨⟨h4, hc4, b4⟩, hqy⟩ := k4
  have HT := Lib.hid hT
  have RF := Lib.hid (fun (W : World) (hb : Below w.heap.size w W) => refAnswer_any (c1 := c1) (c2 := c2) z (by omega) h1 h2 (hp.below hb) (hq.below hb))
  have R1 := Lib.hid (fun (W : World) (t : TabAt W) (hb : Below w.heap.size w W) (J : Nat) (h : BytesAt W (some ⟨J, 0, none⟩) 32 (ansD z n1 g1 n2 g2)) => (by
    have h' := CS.right t z (c3 := 32) (n3 := 32) (g3 := ansD z n1 g1 n2 g2) (by omega) hc1 hc2 (by omega) h1 h2 (fun j _ => ansD_lt _ _ _ _ _ j) (hp.below hb) (hq.below hb) h
    rw [decide_eq_true rfl] at h'
    exact (show Calls Tryd.prog 13 #[.int .i64 z, .slice p n1 c1, .slice q n2 c2, .slice (some ⟨J, 0, none⟩) 32 32] W fun e W' => e = .returned (.bool true) ∧ Below W.heap.size W W' from h')))
  have RG := Lib.hid (fun (W : World) (hb : Below w.heap.size w W) => refAnswer_any (c1 := c1y) (c2 := c2y) zy (by omega) h3 h4 (hpy.below hb) (hqy.below hb))
  have S1 := Lib.hid (fun (W : World) (hb : Below w.heap.size w W) => Same_dec p n1 c1 py n1 c1y g1 g1y h1 h3 W (hp.below hb) (hpy.below hb))
  have S2 := Lib.hid (fun (W : World) (hb : Below w.heap.size w W) => Same_dec q n2 c2 qy n2 c2y g2 g2y h2 h4 W (hq.below hb) (hqy.below hb))
  have R2 := Lib.hid (fun (W : World) (t : TabAt W) (hb : Below w.heap.size w W) (J : Nat) (h : BytesAt W (some ⟨J, 0, none⟩) 32 (ansD z n1 g1 n2 g2)) => CS.right t zy (c3 := 32) (n3 := 32) (g3 := ansD z n1 g1 n2 g2) (by omega) hc3 hc4 (by omega) h3 h4 (fun j _ => ansD_lt _ _ _ _ _ j) (hpy.below hb) (hqy.below hb) h)
  have SA := Lib.hid (fun (e1 : IntKind.u8.wrap z = IntKind.u8.wrap zy) (e2 : mk n1 g1 = mk n1 g1y) (e3 : mk n2 g2 = mk n2 g2y) => ansD_same e1 e2 e3)
  clear hp hq hpy hqy h1 h2 h3 h4 hT CS hc1 hc2 hc3 hc4 b1 b2 b3 b4 hl
  generalize ansD z n1 g1 n2 g2 = A at *
  generalize ansD zy n1 g1y n2 g2y = B at *
  have m1 := IntKind.wrap_u8' z
  have m2 := IntKind.wrap_u8' zy
  have HDD : ∃ D : Bool, decide (mk 32 B = mk 32 A) = D ∧ (mk 32 A == mk 32 B) = D := ⟨_, rfl, by
    by_cases h : mk 32 A = mk 32 B
    · rw [h]; simp
    · rw [decide_eq_false (fun e => h e.symm)]; simpa using h⟩
  obtain ⟨D, hD1, hD2⟩ := HDD
  have HD := Lib.hid hD2
  replace R2 := Lib.hid (fun (W : World) (t : TabAt W) (hb : Below w.heap.size w W) (J : Nat) (h : BytesAt W (some ⟨J, 0, none⟩) 32 A) => (by
    have h' := R2.out W t hb J h
    rw [hD1] at h'
    exact (show Calls Tryd.prog 13 #[.int .i64 zy, .slice py n1 c1y, .slice qy n2 c2y, .slice (some ⟨J, 0, none⟩) 32 32] W fun e W' => e = .returned (.bool D) ∧ Below W.heap.size W W' from h')))
  have y1 : ((IntKind.u8.wrap z == IntKind.u8.wrap zy) : Bool) = false := by simpa using hz
  have y2 : ((z % 256 == zy % 256) : Bool) = false := by rw [m1, m2] at hz; simpa using hz
  have y3 : ¬ z % 256 = zy % 256 := by rw [m1, m2] at hz; exact hz
  clear hz m1 m2 hD1 hD2 SA S1 S2
  go_enter Tryd.func5, Tryd.ntmps5
  go_wp2_with (first
  | (with_reducible show wpList _ _ _ (⟨some 2, Op.box 30 _, _, _, _, none⟩ :: _) _ _
     refine wpList_boxA_of rfl _ rfl #[.int .i64 z, .slice p n1 c1, .slice q n2 c2, .slice r n3 c3, .bool o, .int .i64 k] rfl ?_
     intro w1 x1 l1 s1
     have P1 := Lib.hid (show LwB w [bxO w.heap.size 30 #[.int .i64 z, .slice p n1 c1, .slice q n2 c2, .slice r n3 c3, .bool o, .int .i64 k]] w1 from (LwB.none w).add l1 x1 (Nat.le_refl _))
     clear x1 l1 s1)
  | (with_reducible show wpList _ _ _ (⟨some 3, Op.box 30 _, _, _, _, none⟩ :: _) _ _
     refine wpList_boxA_of rfl _ rfl #[.int .i64 zy, .slice py n1 c1y, .slice qy n2 c2y, .slice ry n3y c3y, .bool oy, .int .i64 ky] rfl ?_
     intro w2 x2 l2 s2
     have P2 := Lib.hid (show LwB w [bxO w1.heap.size 30 #[.int .i64 zy, .slice py n1 c1y, .slice qy n2 c2y, .slice ry n3y c3y, .bool oy, .int .i64 ky], bxO w.heap.size 30 #[.int .i64 z, .slice p n1 c1, .slice q n2 c2, .slice r n3 c3, .bool o, .int .i64 k]] w2 from P1.out.add l2 x2 (Nat.le_refl _))
     clear x2 l2 s2 P1
     generalize w1.heap.size = J at *
     have d0 : w2.cell? ⟨w.heap.size, 0, none⟩ = some (.int .i64 z) := (P2.out.bx (i := 1) rfl).cell 0
     have d1 : w2.cell? ⟨w.heap.size, 1, none⟩ = some (.slice p n1 c1) := (P2.out.bx (i := 1) rfl).cell 1
     have d2 : w2.cell? ⟨w.heap.size, 2, none⟩ = some (.slice q n2 c2) := (P2.out.bx (i := 1) rfl).cell 2
     have e0 : w2.cell? ⟨J, 0, none⟩ = some (.int .i64 zy) := (P2.out.bx (i := 0) rfl).cell 0
     have e1 : w2.cell? ⟨J, 1, none⟩ = some (.slice py n1 c1y) := (P2.out.bx (i := 0) rfl).cell 1
     have e2 : w2.cell? ⟨J, 2, none⟩ = some (.slice qy n2 c2y) := (P2.out.bx (i := 0) rfl).cell 2
     skip)
  | (go_at_call 11
     refine (RF.out w2 P2.out.low).mono ?_; rintro e w3 ⟨rfl, l3⟩
     have P3 := Lib.hid (P2.out.mono l3)
     clear l3 P2 RF d0 d1 d2 e0 e1 e2)
  | (with_reducible show wpList _ _ _ (⟨some 5, Op.alloc 25, _, _, _, _⟩ :: _) _ _
     refine wpList_boxA_new rowSum rfl rfl _ rfl ?_
     intro w4 x4 l4 s4
     have P4 := Lib.hid (show LwB w [bxO w3.heap.size 25 (cellsOf .u8 (mk 32 zeroK)), bxO J 30 #[.int .i64 zy, .slice py n1 c1y, .slice qy n2 c2y, .slice ry n3y c3y, .bool oy, .int .i64 ky], bxO w.heap.size 30 #[.int .i64 z, .slice p n1 c1, .slice q n2 c2, .slice r n3 c3, .bool o, .int .i64 k]] w4 from P3.out.add l4 x4 (Nat.le_refl _))
     clear x4 l4 s4 P3
     generalize w3.heap.size = J5 at *)
  | (with_reducible show wpList _ _ _ (⟨_, Op.store 25 (.tmp 5) _, _, _, _, none⟩ :: _) _ _
     refine wpList_boxA_put rowSum rfl _ _ rfl rfl J5 (cellsOf .u8 (mk 32 A)) (cellsOf .u8 (mk 32 zeroK)) (s32_size _) (s32_one _) (s32_size _) rfl rfl (P4.out.bx (i := 0) rfl) ?_
     intro w5 x5 k5 s5
     have P5 := Lib.hid (show LwB w [bxO J5 25 (cellsOf .u8 (mk 32 A)), bxO J 30 #[.int .i64 zy, .slice py n1 c1y, .slice qy n2 c2y, .slice ry n3y c3y, .bool oy, .int .i64 ky], bxO w.heap.size 30 #[.int .i64 z, .slice p n1 c1, .slice q n2 c2, .slice r n3 c3, .bool o, .int .i64 k]] w5 from P4.out.put 0 rfl x5 k5)
     clear x5 k5 s5 P4))
  have P6 := Lib.hid P5.out.drew
  clear P5
  refine wp_region_sched [(0, true), (1, true), (2, true), (3, true), (4, true), (5, true), (6, true), (7, false), (8, true)] (fun V => BoxA V w.heap.size 30 #[.int .i64 z, .slice p n1 c1, .slice q n2 c2, .slice r n3 c3, .bool o, .int .i64 k]) (by kernel_rfl) (by kernel_rfl) (P6.out.bx (i := 2) rfl) ?_
  refine walk_float rfl rfl (fun K hK => ?_)
  refine gives_askfield _ 0 rfl (by omega) w.heap.size rfl ?_
  go_simp
  refine hK _ ?_
  clear hK K
  refine walk_float rfl rfl (fun K hK => ?_)
  refine gives_cell 3 _ rfl ⟨w.heap.size, 0, none⟩ (.int .i64 z) rfl box_int (fun V hV => hV.cell 0) ?_
  go_simp
  refine hK _ ?_
  clear hK K
  refine walk_float rfl rfl (fun K hK => ?_)
  refine gives_askfield _ 1 rfl (by omega) w.heap.size rfl ?_
  go_simp
  refine hK _ ?_
  clear hK K
  refine walk_float rfl rfl (fun K hK => ?_)
  refine gives_cell 22 _ rfl ⟨w.heap.size, 1, none⟩ (.slice p n1 c1) rfl apart.box_bytes (fun V hV => hV.cell 1) ?_
  go_simp
  refine hK _ ?_
  clear hK K
  refine walk_float rfl rfl (fun K hK => ?_)
  refine gives_askfield _ 2 rfl (by omega) w.heap.size rfl ?_
  go_simp
  refine hK _ ?_
  clear hK K
  refine walk_float rfl rfl (fun K hK => ?_)
  refine gives_cell 22 _ rfl ⟨w.heap.size, 2, none⟩ (.slice q n2 c2) rfl apart.box_bytes (fun V hV => hV.cell 2) ?_
  go_simp
  refine hK _ ?_
  clear hK K
  refine walk_float rfl rfl (fun K hK => ?_)
  refine gives_wholeSum _ rfl J5 rfl ?_
  go_simp
  refine hK _ ?_
  clear hK K
  refine walk_done rfl rfl (fun K hK => ?_)
  refine done_call4c _ _ _ _ _ _ rfl 13 rfl (enters_of Tryd.func13 (by kernel_rfl) rfl) _ _ _ _ rfl rfl rfl rfl _ (R1.out _ (HT.out.on P6.out.low) P6.out.low J5 (box_s32 (P6.out.bx (i := 0) rfl))) ?_
  rintro e w7 ⟨rfl, l7⟩
  have P7 := Lib.hid (P6.out.mono l7)
  clear l7 P6
  refine ⟨_, rfl, P7.out.bx (i := 2) rfl, ?_⟩
  go_simp
  refine hK _ _ ?_
  clear hK K
  refine walk_float rfl rfl (fun K hK => ?_)
  refine gives_not2 _ _ rfl true false rfl rfl ?_
  go_simp
  refine hK _ ?_
  clear hK K
  refine walk_nil ?_
  have d0 : w7.cell? ⟨w.heap.size, 0, none⟩ = some (.int .i64 z) := (P7.out.bx (i := 2) rfl).cell 0
  have d1 : w7.cell? ⟨w.heap.size, 1, none⟩ = some (.slice p n1 c1) := (P7.out.bx (i := 2) rfl).cell 1
  have d2 : w7.cell? ⟨w.heap.size, 2, none⟩ = some (.slice q n2 c2) := (P7.out.bx (i := 2) rfl).cell 2
  have e0 : w7.cell? ⟨J, 0, none⟩ = some (.int .i64 zy) := (P7.out.bx (i := 1) rfl).cell 0
  have e1 : w7.cell? ⟨J, 1, none⟩ = some (.slice py n1 c1y) := (P7.out.bx (i := 1) rfl).cell 1
  have e2 : w7.cell? ⟨J, 2, none⟩ = some (.slice qy n2 c2y) := (P7.out.bx (i := 1) rfl).cell 2
  go_wp2_with (first
  | (go_at_call 11
     refine (RG.out _ P7.out.low).mono ?_; rintro e w8 ⟨rfl, l8⟩
     have P8 := Lib.hid (P7.out.mono l8)
     clear l8 P7 RG d0 d1 d2 e0 e1 e2)
  | (with_reducible show wpList _ _ _ (⟨some 7, Op.alloc 25, _, _, _, _⟩ :: _) _ _
     refine wpList_boxA_new rowSum rfl rfl _ rfl ?_
     intro w9 x9 l9 s9
     have P9 := Lib.hid (show LwB w [bxO w8.heap.size 25 (cellsOf .u8 (mk 32 zeroK)), bxO J5 25 (cellsOf .u8 (mk 32 A)), bxO J 30 #[.int .i64 zy, .slice py n1 c1y, .slice qy n2 c2y, .slice ry n3y c3y, .bool oy, .int .i64 ky], bxO w.heap.size 30 #[.int .i64 z, .slice p n1 c1, .slice q n2 c2, .slice r n3 c3, .bool o, .int .i64 k]] w9 from P8.out.add l9 x9 (Nat.le_refl _))
     clear x9 l9 s9 P8
     generalize w8.heap.size = J7 at *)
  | (with_reducible show wpList _ _ _ (⟨_, Op.store 25 (.tmp 7) _, _, _, _, none⟩ :: _) _ _
     refine wpList_boxA_put rowSum rfl _ _ rfl rfl J7 (cellsOf .u8 (mk 32 B)) (cellsOf .u8 (mk 32 zeroK)) (s32_size _) (s32_one _) (s32_size _) rfl rfl (P9.out.bx (i := 0) rfl) ?_
     intro wa xa ka sa
     have Pa := Lib.hid (show LwB w [bxO J7 25 (cellsOf .u8 (mk 32 B)), bxO J5 25 (cellsOf .u8 (mk 32 A)), bxO J 30 #[.int .i64 zy, .slice py n1 c1y, .slice qy n2 c2y, .slice ry n3y c3y, .bool oy, .int .i64 ky], bxO w.heap.size 30 #[.int .i64 z, .slice p n1 c1, .slice q n2 c2, .slice r n3 c3, .bool o, .int .i64 k]] wa from P9.out.put 0 rfl xa ka)
     clear xa ka sa P9))
  have Pb := Lib.hid Pa.out.drew
  clear Pa
  refine wp_region_sched [(0, true), (1, true), (2, true), (3, true), (4, true), (5, true), (6, true), (8, true), (7, false), (9, true), (10, true), (11, true), (12, true), (13, true), (14, true), (15, true)] (fun V => BoxA V J 30 #[.int .i64 zy, .slice py n1 c1y, .slice qy n2 c2y, .slice ry n3y c3y, .bool oy, .int .i64 ky] ∧ BoxA V J5 25 (cellsOf .u8 (mk 32 A)) ∧ BoxA V J7 25 (cellsOf .u8 (mk 32 B))) (by kernel_rfl) (by kernel_rfl) ⟨Pb.out.bx (i := 2) rfl, Pb.out.bx (i := 1) rfl, Pb.out.bx (i := 0) rfl⟩ ?_
  refine walk_float rfl rfl (fun K hK => ?_)
  refine gives_askfield _ 0 rfl (by omega) J rfl ?_
  go_simp
  refine hK _ ?_
  clear hK K
  refine walk_float rfl rfl (fun K hK => ?_)
  refine gives_cell 3 _ rfl ⟨J, 0, none⟩ (.int .i64 zy) rfl box_int (fun V hV => hV.1.cell 0) ?_
  go_simp
  refine hK _ ?_
  clear hK K
  refine walk_float rfl rfl (fun K hK => ?_)
  refine gives_askfield _ 1 rfl (by omega) J rfl ?_
  go_simp
  refine hK _ ?_
  clear hK K
  refine walk_float rfl rfl (fun K hK => ?_)
  refine gives_cell 22 _ rfl ⟨J, 1, none⟩ (.slice py n1 c1y) rfl apart.box_bytes (fun V hV => hV.1.cell 1) ?_
  go_simp
  refine hK _ ?_
  clear hK K
  refine walk_float rfl rfl (fun K hK => ?_)
  refine gives_askfield _ 2 rfl (by omega) J rfl ?_
  go_simp
  refine hK _ ?_
  clear hK K
  refine walk_float rfl rfl (fun K hK => ?_)
  refine gives_cell 22 _ rfl ⟨J, 2, none⟩ (.slice qy n2 c2y) rfl apart.box_bytes (fun V hV => hV.1.cell 2) ?_
  go_simp
  refine hK _ ?_
  clear hK K
  refine walk_float rfl rfl (fun K hK => ?_)
  refine gives_wholeSum _ rfl J5 rfl ?_
  go_simp
  refine hK _ ?_
  clear hK K
  refine walk_float rfl rfl (fun K hK => ?_)
  refine gives_move _ rfl ?_
  go_simp
  refine hK _ ?_
  clear hK K
  refine walk_done rfl rfl (fun K hK => ?_)
  refine done_call4c _ _ _ _ _ _ rfl 13 rfl (enters_of Tryd.func13 (by kernel_rfl) rfl) _ _ _ _ rfl rfl rfl rfl _ (R2.out _ (HT.out.on Pb.out.low) Pb.out.low J5 (box_s32 (Pb.out.bx (i := 1) rfl))) ?_
  rintro e wc ⟨rfl, lc⟩
  have Pc := Lib.hid (Pb.out.mono lc)
  clear lc Pb
  refine ⟨_, rfl, ⟨Pc.out.bx (i := 2) rfl, Pc.out.bx (i := 1) rfl, Pc.out.bx (i := 0) rfl⟩, ?_⟩
  go_simp
  refine hK _ _ ?_
  clear hK K
  refine walk_float rfl rfl (fun K hK => ?_)
  refine gives_move _ rfl ?_
  go_simp
  refine hK _ ?_
  clear hK K
  refine walk_float rfl rfl (fun K hK => ?_)
  refine gives_s32_load _ rfl J5 A rfl (fun V hV => hV.2.1) ?_
  go_simp
  refine hK _ ?_
  clear hK K
  refine walk_float rfl rfl (fun K hK => ?_)
  refine gives_s32_load _ rfl J7 B rfl (fun V hV => hV.2.2) ?_
  go_simp
  refine hK _ ?_
  clear hK K
  refine walk_float rfl rfl (fun K hK => ?_)
  refine gives_s32_eql _ _ rfl A B rfl rfl D HD.out ?_
  go_simp
  refine hK _ ?_
  clear hK K
  refine walk_float rfl rfl (fun K hK => ?_)
  refine gives_pickF _ _ _ rfl rfl (.bool D) rfl ?_
  go_simp
  refine hK _ ?_
  clear hK K
  refine walk_float rfl rfl (fun K hK => ?_)
  refine gives_beql _ _ rfl D D true rfl rfl (by simp) ?_
  go_simp
  refine hK _ ?_
  clear hK K
  refine walk_float rfl rfl (fun K hK => ?_)
  refine gives_assign _ rfl ?_
  go_simp
  refine hK _ ?_
  clear hK K
  refine walk_nil ?_
  go_wp2
  go_ret
  exact ⟨rfl, Pc.out.low⟩
set_option maxRecDepth 100000 in
set_option maxHeartbeats 4000000 in
theorem like2 (CS : ChapSpec) {w : World} (hT : TabAt w) (z : Int) (p : Option Addr) (n1 c1 : Nat) (g1 : Nat → Nat) (q : Option Addr) (n2 c2 : Nat) (g2 : Nat → Nat) (r : Option Addr) (n3 c3 : Nat) (g3 : Nat → Nat) (o : Bool) (k : Int) (zy : Int) (py : Option Addr) (c1y : Nat) (g1y : Nat → Nat) (qy : Option Addr) (c2y : Nat) (g2y : Nat → Nat) (ry : Option Addr) (n3y c3y : Nat) (g3y : Nat → Nat) (oy : Bool) (ky : Int) (k1 : Row w p n1 c1 g1) (k2 : Row w q n2 c2 g2) (k3 : Row w py n1 c1y g1y) (k4 : Row w qy n2 c2y g2y) (hl : n1 + n2 + n1 + n2 ≤ 4096) (hz : IntKind.u8.wrap z = IntKind.u8.wrap zy) (hg : ¬ mk n1 g1 = mk n1 g1y) :
    Calls Tryd.prog 5 #[.agg #[.int .i64 z, .slice p n1 c1, .slice q n2 c2, .slice r n3 c3, .bool o, .int .i64 k], .agg #[.int .i64 zy, .slice py n1 c1y, .slice qy n2 c2y, .slice ry n3y c3y, .bool oy, .int .i64 ky]] w fun e w' => e = .returned (.bool true) ∧ Below w.heap.size w w' := by
  have t1 : IntKind.i64.wrap ((n1 : Int) + (n2 : Int)) = (n1 : Int) + (n2 : Int) := IntWalk.i64_in _ (by have := k1.1.2.2; have := k2.1.2.2; omega)
  have t2 : IntKind.i64.wrap ((n1 : Int) + (n2 : Int) + (n1 : Int)) = (n1 : Int) + (n2 : Int) + (n1 : Int) := IntWalk.i64_in _ (by have := k1.1.2.2; have := k2.1.2.2; have := k3.1.2.2; omega)
  have t3 : IntKind.i64.wrap ((n1 : Int) + (n2 : Int) + (n1 : Int) + (n2 : Int)) = (n1 : Int) + (n2 : Int) + (n1 : Int) + (n2 : Int) := IntWalk.i64_in _ (by have := k1.1.2.2; have := k2.1.2.2; have := k3.1.2.2; have := k4.1.2.2; omega)
  have f1 : decide ((4096 : Int) < (n1 : Int) + (n2 : Int) + (n1 : Int) + (n2 : Int)) = false := by simp; omega
  obtain ⟨⟨h1, hc1, b1⟩, hp⟩ := k1
  obtain ⟨⟨h2, hc2, b2⟩, hq⟩ := k2
  obtain ⟨⟨h3, hc3, b3⟩, hpy⟩ := k3
  obtain ⟨⟨h4, hc4, b4⟩, hqy⟩ := k4
  have HT := Lib.hid hT
  have RF := Lib.hid (fun (W : World) (hb : Below w.heap.size w W) => refAnswer_any (c1 := c1) (c2 := c2) z (by omega) h1 h2 (hp.below hb) (hq.below hb))
  have R1 := Lib.hid (fun (W : World) (t : TabAt W) (hb : Below w.heap.size w W) (J : Nat) (h : BytesAt W (some ⟨J, 0, none⟩) 32 (ansD z n1 g1 n2 g2)) => (by
    have h' := CS.right t z (c3 := 32) (n3 := 32) (g3 := ansD z n1 g1 n2 g2) (by omega) hc1 hc2 (by omega) h1 h2 (fun j _ => ansD_lt _ _ _ _ _ j) (hp.below hb) (hq.below hb) h
    rw [decide_eq_true rfl] at h'
    exact (show Calls Tryd.prog 13 #[.int .i64 z, .slice p n1 c1, .slice q n2 c2, .slice (some ⟨J, 0, none⟩) 32 32] W fun e W' => e = .returned (.bool true) ∧ Below W.heap.size W W' from h')))
  have RG := Lib.hid (fun (W : World) (hb : Below w.heap.size w W) => refAnswer_any (c1 := c1y) (c2 := c2y) zy (by omega) h3 h4 (hpy.below hb) (hqy.below hb))
  have S1 := Lib.hid (fun (W : World) (hb : Below w.heap.size w W) => Same_dec p n1 c1 py n1 c1y g1 g1y h1 h3 W (hp.below hb) (hpy.below hb))
  have S2 := Lib.hid (fun (W : World) (hb : Below w.heap.size w W) => Same_dec q n2 c2 qy n2 c2y g2 g2y h2 h4 W (hq.below hb) (hqy.below hb))
  have R2 := Lib.hid (fun (W : World) (t : TabAt W) (hb : Below w.heap.size w W) (J : Nat) (h : BytesAt W (some ⟨J, 0, none⟩) 32 (ansD z n1 g1 n2 g2)) => CS.right t zy (c3 := 32) (n3 := 32) (g3 := ansD z n1 g1 n2 g2) (by omega) hc3 hc4 (by omega) h3 h4 (fun j _ => ansD_lt _ _ _ _ _ j) (hpy.below hb) (hqy.below hb) h)
  have SA := Lib.hid (fun (e1 : IntKind.u8.wrap z = IntKind.u8.wrap zy) (e2 : mk n1 g1 = mk n1 g1y) (e3 : mk n2 g2 = mk n2 g2y) => ansD_same e1 e2 e3)
  clear hp hq hpy hqy h1 h2 h3 h4 hT CS hc1 hc2 hc3 hc4 b1 b2 b3 b4 hl
  generalize ansD z n1 g1 n2 g2 = A at *
  generalize ansD zy n1 g1y n2 g2y = B at *
  have m1 := IntKind.wrap_u8' z
  have m2 := IntKind.wrap_u8' zy
  have HDD : ∃ D : Bool, decide (mk 32 B = mk 32 A) = D ∧ (mk 32 A == mk 32 B) = D := ⟨_, rfl, by
    by_cases h : mk 32 A = mk 32 B
    · rw [h]; simp
    · rw [decide_eq_false (fun e => h e.symm)]; simpa using h⟩
  obtain ⟨D, hD1, hD2⟩ := HDD
  have HD := Lib.hid hD2
  replace R2 := Lib.hid (fun (W : World) (t : TabAt W) (hb : Below w.heap.size w W) (J : Nat) (h : BytesAt W (some ⟨J, 0, none⟩) 32 A) => (by
    have h' := R2.out W t hb J h
    rw [hD1] at h'
    exact (show Calls Tryd.prog 13 #[.int .i64 zy, .slice py n1 c1y, .slice qy n2 c2y, .slice (some ⟨J, 0, none⟩) 32 32] W fun e W' => e = .returned (.bool D) ∧ Below W.heap.size W W' from h')))
  have y1 : ((IntKind.u8.wrap z == IntKind.u8.wrap zy) : Bool) = true := by simpa using hz
  have y2 : ((z % 256 == zy % 256) : Bool) = true := by rw [m1, m2] at hz; simpa using hz
  have y3 : z % 256 = zy % 256 := by rw [m1, m2] at hz; exact hz
  replace S1 := Lib.hid (fun (W : World) (hb : Below w.heap.size w W) => (by
    have h' := S1.out W hb
    rw [decide_eq_false hg] at h'
    exact (show Calls Tryd.prog 14 #[.slice p n1 c1, .slice py n1 c1y] W fun e W' => e = .returned (.bool false) ∧ W = W' from h')))
  clear hz m1 m2 hD1 hD2 SA S2 hg
  go_enter Tryd.func5, Tryd.ntmps5
  go_wp2_with (first
  | (with_reducible show wpList _ _ _ (⟨some 2, Op.box 30 _, _, _, _, none⟩ :: _) _ _
     refine wpList_boxA_of rfl _ rfl #[.int .i64 z, .slice p n1 c1, .slice q n2 c2, .slice r n3 c3, .bool o, .int .i64 k] rfl ?_
     intro w1 x1 l1 s1
     have P1 := Lib.hid (show LwB w [bxO w.heap.size 30 #[.int .i64 z, .slice p n1 c1, .slice q n2 c2, .slice r n3 c3, .bool o, .int .i64 k]] w1 from (LwB.none w).add l1 x1 (Nat.le_refl _))
     clear x1 l1 s1)
  | (with_reducible show wpList _ _ _ (⟨some 3, Op.box 30 _, _, _, _, none⟩ :: _) _ _
     refine wpList_boxA_of rfl _ rfl #[.int .i64 zy, .slice py n1 c1y, .slice qy n2 c2y, .slice ry n3y c3y, .bool oy, .int .i64 ky] rfl ?_
     intro w2 x2 l2 s2
     have P2 := Lib.hid (show LwB w [bxO w1.heap.size 30 #[.int .i64 zy, .slice py n1 c1y, .slice qy n2 c2y, .slice ry n3y c3y, .bool oy, .int .i64 ky], bxO w.heap.size 30 #[.int .i64 z, .slice p n1 c1, .slice q n2 c2, .slice r n3 c3, .bool o, .int .i64 k]] w2 from P1.out.add l2 x2 (Nat.le_refl _))
     clear x2 l2 s2 P1
     generalize w1.heap.size = J at *
     have d0 : w2.cell? ⟨w.heap.size, 0, none⟩ = some (.int .i64 z) := (P2.out.bx (i := 1) rfl).cell 0
     have d1 : w2.cell? ⟨w.heap.size, 1, none⟩ = some (.slice p n1 c1) := (P2.out.bx (i := 1) rfl).cell 1
     have d2 : w2.cell? ⟨w.heap.size, 2, none⟩ = some (.slice q n2 c2) := (P2.out.bx (i := 1) rfl).cell 2
     have e0 : w2.cell? ⟨J, 0, none⟩ = some (.int .i64 zy) := (P2.out.bx (i := 0) rfl).cell 0
     have e1 : w2.cell? ⟨J, 1, none⟩ = some (.slice py n1 c1y) := (P2.out.bx (i := 0) rfl).cell 1
     have e2 : w2.cell? ⟨J, 2, none⟩ = some (.slice qy n2 c2y) := (P2.out.bx (i := 0) rfl).cell 2
     skip)
  | (go_at_call 11
     refine (RF.out w2 P2.out.low).mono ?_; rintro e w3 ⟨rfl, l3⟩
     have P3 := Lib.hid (P2.out.mono l3)
     clear l3 P2 RF d0 d1 d2 e0 e1 e2)
  | (with_reducible show wpList _ _ _ (⟨some 5, Op.alloc 25, _, _, _, _⟩ :: _) _ _
     refine wpList_boxA_new rowSum rfl rfl _ rfl ?_
     intro w4 x4 l4 s4
     have P4 := Lib.hid (show LwB w [bxO w3.heap.size 25 (cellsOf .u8 (mk 32 zeroK)), bxO J 30 #[.int .i64 zy, .slice py n1 c1y, .slice qy n2 c2y, .slice ry n3y c3y, .bool oy, .int .i64 ky], bxO w.heap.size 30 #[.int .i64 z, .slice p n1 c1, .slice q n2 c2, .slice r n3 c3, .bool o, .int .i64 k]] w4 from P3.out.add l4 x4 (Nat.le_refl _))
     clear x4 l4 s4 P3
     generalize w3.heap.size = J5 at *)
  | (with_reducible show wpList _ _ _ (⟨_, Op.store 25 (.tmp 5) _, _, _, _, none⟩ :: _) _ _
     refine wpList_boxA_put rowSum rfl _ _ rfl rfl J5 (cellsOf .u8 (mk 32 A)) (cellsOf .u8 (mk 32 zeroK)) (s32_size _) (s32_one _) (s32_size _) rfl rfl (P4.out.bx (i := 0) rfl) ?_
     intro w5 x5 k5 s5
     have P5 := Lib.hid (show LwB w [bxO J5 25 (cellsOf .u8 (mk 32 A)), bxO J 30 #[.int .i64 zy, .slice py n1 c1y, .slice qy n2 c2y, .slice ry n3y c3y, .bool oy, .int .i64 ky], bxO w.heap.size 30 #[.int .i64 z, .slice p n1 c1, .slice q n2 c2, .slice r n3 c3, .bool o, .int .i64 k]] w5 from P4.out.put 0 rfl x5 k5)
     clear x5 k5 s5 P4))
  have P6 := Lib.hid P5.out.drew
  clear P5
  refine wp_region_sched [(0, true), (1, true), (2, true), (3, true), (4, true), (5, true), (6, true), (7, false), (8, true)] (fun V => BoxA V w.heap.size 30 #[.int .i64 z, .slice p n1 c1, .slice q n2 c2, .slice r n3 c3, .bool o, .int .i64 k]) (by kernel_rfl) (by kernel_rfl) (P6.out.bx (i := 2) rfl) ?_
  refine walk_float rfl rfl (fun K hK => ?_)
  refine gives_askfield _ 0 rfl (by omega) w.heap.size rfl ?_
  go_simp
  refine hK _ ?_
  clear hK K
  refine walk_float rfl rfl (fun K hK => ?_)
  refine gives_cell 3 _ rfl ⟨w.heap.size, 0, none⟩ (.int .i64 z) rfl box_int (fun V hV => hV.cell 0) ?_
  go_simp
  refine hK _ ?_
  clear hK K
  refine walk_float rfl rfl (fun K hK => ?_)
  refine gives_askfield _ 1 rfl (by omega) w.heap.size rfl ?_
  go_simp
  refine hK _ ?_
  clear hK K
  refine walk_float rfl rfl (fun K hK => ?_)
  refine gives_cell 22 _ rfl ⟨w.heap.size, 1, none⟩ (.slice p n1 c1) rfl apart.box_bytes (fun V hV => hV.cell 1) ?_
  go_simp
  refine hK _ ?_
  clear hK K
  refine walk_float rfl rfl (fun K hK => ?_)
  refine gives_askfield _ 2 rfl (by omega) w.heap.size rfl ?_
  go_simp
  refine hK _ ?_
  clear hK K
  refine walk_float rfl rfl (fun K hK => ?_)
  refine gives_cell 22 _ rfl ⟨w.heap.size, 2, none⟩ (.slice q n2 c2) rfl apart.box_bytes (fun V hV => hV.cell 2) ?_
  go_simp
  refine hK _ ?_
  clear hK K
  refine walk_float rfl rfl (fun K hK => ?_)
  refine gives_wholeSum _ rfl J5 rfl ?_
  go_simp
  refine hK _ ?_
  clear hK K
  refine walk_done rfl rfl (fun K hK => ?_)
  refine done_call4c _ _ _ _ _ _ rfl 13 rfl (enters_of Tryd.func13 (by kernel_rfl) rfl) _ _ _ _ rfl rfl rfl rfl _ (R1.out _ (HT.out.on P6.out.low) P6.out.low J5 (box_s32 (P6.out.bx (i := 0) rfl))) ?_
  rintro e w7 ⟨rfl, l7⟩
  have P7 := Lib.hid (P6.out.mono l7)
  clear l7 P6
  refine ⟨_, rfl, P7.out.bx (i := 2) rfl, ?_⟩
  go_simp
  refine hK _ _ ?_
  clear hK K
  refine walk_float rfl rfl (fun K hK => ?_)
  refine gives_not2 _ _ rfl true false rfl rfl ?_
  go_simp
  refine hK _ ?_
  clear hK K
  refine walk_nil ?_
  have d0 : w7.cell? ⟨w.heap.size, 0, none⟩ = some (.int .i64 z) := (P7.out.bx (i := 2) rfl).cell 0
  have d1 : w7.cell? ⟨w.heap.size, 1, none⟩ = some (.slice p n1 c1) := (P7.out.bx (i := 2) rfl).cell 1
  have d2 : w7.cell? ⟨w.heap.size, 2, none⟩ = some (.slice q n2 c2) := (P7.out.bx (i := 2) rfl).cell 2
  have e0 : w7.cell? ⟨J, 0, none⟩ = some (.int .i64 zy) := (P7.out.bx (i := 1) rfl).cell 0
  have e1 : w7.cell? ⟨J, 1, none⟩ = some (.slice py n1 c1y) := (P7.out.bx (i := 1) rfl).cell 1
  have e2 : w7.cell? ⟨J, 2, none⟩ = some (.slice qy n2 c2y) := (P7.out.bx (i := 1) rfl).cell 2
  go_wp2_with (first
  | (go_at_call 14
     refine (S1.out w7 P7.out.low).mono ?_; rintro e wq ⟨rfl, rfl⟩; clear S1)
  | (go_at_call 11
     refine (RG.out _ P7.out.low).mono ?_; rintro e w8 ⟨rfl, l8⟩
     have P8 := Lib.hid (P7.out.mono l8)
     clear l8 P7 RG d0 d1 d2 e0 e1 e2)
  | (with_reducible show wpList _ _ _ (⟨some 7, Op.alloc 25, _, _, _, _⟩ :: _) _ _
     refine wpList_boxA_new rowSum rfl rfl _ rfl ?_
     intro w9 x9 l9 s9
     have P9 := Lib.hid (show LwB w [bxO w8.heap.size 25 (cellsOf .u8 (mk 32 zeroK)), bxO J5 25 (cellsOf .u8 (mk 32 A)), bxO J 30 #[.int .i64 zy, .slice py n1 c1y, .slice qy n2 c2y, .slice ry n3y c3y, .bool oy, .int .i64 ky], bxO w.heap.size 30 #[.int .i64 z, .slice p n1 c1, .slice q n2 c2, .slice r n3 c3, .bool o, .int .i64 k]] w9 from P8.out.add l9 x9 (Nat.le_refl _))
     clear x9 l9 s9 P8
     generalize w8.heap.size = J7 at *)
  | (with_reducible show wpList _ _ _ (⟨_, Op.store 25 (.tmp 7) _, _, _, _, none⟩ :: _) _ _
     refine wpList_boxA_put rowSum rfl _ _ rfl rfl J7 (cellsOf .u8 (mk 32 B)) (cellsOf .u8 (mk 32 zeroK)) (s32_size _) (s32_one _) (s32_size _) rfl rfl (P9.out.bx (i := 0) rfl) ?_
     intro wa xa ka sa
     have Pa := Lib.hid (show LwB w [bxO J7 25 (cellsOf .u8 (mk 32 B)), bxO J5 25 (cellsOf .u8 (mk 32 A)), bxO J 30 #[.int .i64 zy, .slice py n1 c1y, .slice qy n2 c2y, .slice ry n3y c3y, .bool oy, .int .i64 ky], bxO w.heap.size 30 #[.int .i64 z, .slice p n1 c1, .slice q n2 c2, .slice r n3 c3, .bool o, .int .i64 k]] wa from P9.out.put 0 rfl xa ka)
     clear xa ka sa P9))
  have Pb := Lib.hid Pa.out.drew
  clear Pa
  refine wp_region_sched [(0, true), (1, true), (2, true), (3, true), (4, true), (5, true), (6, true), (8, true), (7, false), (9, true), (10, true), (11, true), (12, true), (13, true), (14, true), (15, true)] (fun V => BoxA V J 30 #[.int .i64 zy, .slice py n1 c1y, .slice qy n2 c2y, .slice ry n3y c3y, .bool oy, .int .i64 ky] ∧ BoxA V J5 25 (cellsOf .u8 (mk 32 A)) ∧ BoxA V J7 25 (cellsOf .u8 (mk 32 B))) (by kernel_rfl) (by kernel_rfl) ⟨Pb.out.bx (i := 2) rfl, Pb.out.bx (i := 1) rfl, Pb.out.bx (i := 0) rfl⟩ ?_
  refine walk_float rfl rfl (fun K hK => ?_)
  refine gives_askfield _ 0 rfl (by omega) J rfl ?_
  go_simp
  refine hK _ ?_
  clear hK K
  refine walk_float rfl rfl (fun K hK => ?_)
  refine gives_cell 3 _ rfl ⟨J, 0, none⟩ (.int .i64 zy) rfl box_int (fun V hV => hV.1.cell 0) ?_
  go_simp
  refine hK _ ?_
  clear hK K
  refine walk_float rfl rfl (fun K hK => ?_)
  refine gives_askfield _ 1 rfl (by omega) J rfl ?_
  go_simp
  refine hK _ ?_
  clear hK K
  refine walk_float rfl rfl (fun K hK => ?_)
  refine gives_cell 22 _ rfl ⟨J, 1, none⟩ (.slice py n1 c1y) rfl apart.box_bytes (fun V hV => hV.1.cell 1) ?_
  go_simp
  refine hK _ ?_
  clear hK K
  refine walk_float rfl rfl (fun K hK => ?_)
  refine gives_askfield _ 2 rfl (by omega) J rfl ?_
  go_simp
  refine hK _ ?_
  clear hK K
  refine walk_float rfl rfl (fun K hK => ?_)
  refine gives_cell 22 _ rfl ⟨J, 2, none⟩ (.slice qy n2 c2y) rfl apart.box_bytes (fun V hV => hV.1.cell 2) ?_
  go_simp
  refine hK _ ?_
  clear hK K
  refine walk_float rfl rfl (fun K hK => ?_)
  refine gives_wholeSum _ rfl J5 rfl ?_
  go_simp
  refine hK _ ?_
  clear hK K
  refine walk_float rfl rfl (fun K hK => ?_)
  refine gives_move _ rfl ?_
  go_simp
  refine hK _ ?_
  clear hK K
  refine walk_done rfl rfl (fun K hK => ?_)
  refine done_call4c _ _ _ _ _ _ rfl 13 rfl (enters_of Tryd.func13 (by kernel_rfl) rfl) _ _ _ _ rfl rfl rfl rfl _ (R2.out _ (HT.out.on Pb.out.low) Pb.out.low J5 (box_s32 (Pb.out.bx (i := 1) rfl))) ?_
  rintro e wc ⟨rfl, lc⟩
  have Pc := Lib.hid (Pb.out.mono lc)
  clear lc Pb
  refine ⟨_, rfl, ⟨Pc.out.bx (i := 2) rfl, Pc.out.bx (i := 1) rfl, Pc.out.bx (i := 0) rfl⟩, ?_⟩
  go_simp
  refine hK _ _ ?_
  clear hK K
  refine walk_float rfl rfl (fun K hK => ?_)
  refine gives_move _ rfl ?_
  go_simp
  refine hK _ ?_
  clear hK K
  refine walk_float rfl rfl (fun K hK => ?_)
  refine gives_s32_load _ rfl J5 A rfl (fun V hV => hV.2.1) ?_
  go_simp
  refine hK _ ?_
  clear hK K
  refine walk_float rfl rfl (fun K hK => ?_)
  refine gives_s32_load _ rfl J7 B rfl (fun V hV => hV.2.2) ?_
  go_simp
  refine hK _ ?_
  clear hK K
  refine walk_float rfl rfl (fun K hK => ?_)
  refine gives_s32_eql _ _ rfl A B rfl rfl D HD.out ?_
  go_simp
  refine hK _ ?_
  clear hK K
  refine walk_float rfl rfl (fun K hK => ?_)
  refine gives_pickF _ _ _ rfl rfl (.bool D) rfl ?_
  go_simp
  refine hK _ ?_
  clear hK K
  refine walk_float rfl rfl (fun K hK => ?_)
  refine gives_beql _ _ rfl D D true rfl rfl (by simp) ?_
  go_simp
  refine hK _ ?_
  clear hK K
  refine walk_float rfl rfl (fun K hK => ?_)
  refine gives_assign _ rfl ?_
  go_simp
  refine hK _ ?_
  clear hK K
  refine walk_nil ?_
  go_wp2
  go_ret
  exact ⟨rfl, Pc.out.low⟩
set_option maxRecDepth 100000 in
set_option maxHeartbeats 4000000 in
theorem like3 (CS : ChapSpec) {w : World} (hT : TabAt w) (z : Int) (p : Option Addr) (n1 c1 : Nat) (g1 : Nat → Nat) (q : Option Addr) (n2 c2 : Nat) (g2 : Nat → Nat) (r : Option Addr) (n3 c3 : Nat) (g3 : Nat → Nat) (o : Bool) (k : Int) (zy : Int) (py : Option Addr) (c1y : Nat) (g1y : Nat → Nat) (qy : Option Addr) (c2y : Nat) (g2y : Nat → Nat) (ry : Option Addr) (n3y c3y : Nat) (g3y : Nat → Nat) (oy : Bool) (ky : Int) (k1 : Row w p n1 c1 g1) (k2 : Row w q n2 c2 g2) (k3 : Row w py n1 c1y g1y) (k4 : Row w qy n2 c2y g2y) (hl : n1 + n2 + n1 + n2 ≤ 4096) (hz : IntKind.u8.wrap z = IntKind.u8.wrap zy) (hg : mk n1 g1 = mk n1 g1y) (hh : ¬ mk n2 g2 = mk n2 g2y) :
    Calls Tryd.prog 5 #[.agg #[.int .i64 z, .slice p n1 c1, .slice q n2 c2, .slice r n3 c3, .bool o, .int .i64 k], .agg #[.int .i64 zy, .slice py n1 c1y, .slice qy n2 c2y, .slice ry n3y c3y, .bool oy, .int .i64 ky]] w fun e w' => e = .returned (.bool true) ∧ Below w.heap.size w w' := by
  have t1 : IntKind.i64.wrap ((n1 : Int) + (n2 : Int)) = (n1 : Int) + (n2 : Int) := IntWalk.i64_in _ (by have := k1.1.2.2; have := k2.1.2.2; omega)
  have t2 : IntKind.i64.wrap ((n1 : Int) + (n2 : Int) + (n1 : Int)) = (n1 : Int) + (n2 : Int) + (n1 : Int) := IntWalk.i64_in _ (by have := k1.1.2.2; have := k2.1.2.2; have := k3.1.2.2; omega)
  have t3 : IntKind.i64.wrap ((n1 : Int) + (n2 : Int) + (n1 : Int) + (n2 : Int)) = (n1 : Int) + (n2 : Int) + (n1 : Int) + (n2 : Int) := IntWalk.i64_in _ (by have := k1.1.2.2; have := k2.1.2.2; have := k3.1.2.2; have := k4.1.2.2; omega)
  have f1 : decide ((4096 : Int) < (n1 : Int) + (n2 : Int) + (n1 : Int) + (n2 : Int)) = false := by simp; omega
  obtain ⟨⟨h1, hc1, b1⟩, hp⟩ := k1
  obtain ⟨⟨h2, hc2, b2⟩, hq⟩ := k2
  obtain ⟨⟨h3, hc3, b3⟩, hpy⟩ := k3
  obtain ⟨⟨h4, hc4, b4⟩, hqy⟩ := k4
  have HT := Lib.hid hT
  have RF := Lib.hid (fun (W : World) (hb : Below w.heap.size w W) => refAnswer_any (c1 := c1) (c2 := c2) z (by omega) h1 h2 (hp.below hb) (hq.below hb))
  have R1 := Lib.hid (fun (W : World) (t : TabAt W) (hb : Below w.heap.size w W) (J : Nat) (h : BytesAt W (some ⟨J, 0, none⟩) 32 (ansD z n1 g1 n2 g2)) => (by
    have h' := CS.right t z (c3 := 32) (n3 := 32) (g3 := ansD z n1 g1 n2 g2) (by omega) hc1 hc2 (by omega) h1 h2 (fun j _ => ansD_lt _ _ _ _ _ j) (hp.below hb) (hq.below hb) h
    rw [decide_eq_true rfl] at h'
    exact (show Calls Tryd.prog 13 #[.int .i64 z, .slice p n1 c1, .slice q n2 c2, .slice (some ⟨J, 0, none⟩) 32 32] W fun e W' => e = .returned (.bool true) ∧ Below W.heap.size W W' from h')))
  have RG := Lib.hid (fun (W : World) (hb : Below w.heap.size w W) => refAnswer_any (c1 := c1y) (c2 := c2y) zy (by omega) h3 h4 (hpy.below hb) (hqy.below hb))
  have S1 := Lib.hid (fun (W : World) (hb : Below w.heap.size w W) => Same_dec p n1 c1 py n1 c1y g1 g1y h1 h3 W (hp.below hb) (hpy.below hb))
  have S2 := Lib.hid (fun (W : World) (hb : Below w.heap.size w W) => Same_dec q n2 c2 qy n2 c2y g2 g2y h2 h4 W (hq.below hb) (hqy.below hb))
  have R2 := Lib.hid (fun (W : World) (t : TabAt W) (hb : Below w.heap.size w W) (J : Nat) (h : BytesAt W (some ⟨J, 0, none⟩) 32 (ansD z n1 g1 n2 g2)) => CS.right t zy (c3 := 32) (n3 := 32) (g3 := ansD z n1 g1 n2 g2) (by omega) hc3 hc4 (by omega) h3 h4 (fun j _ => ansD_lt _ _ _ _ _ j) (hpy.below hb) (hqy.below hb) h)
  have SA := Lib.hid (fun (e1 : IntKind.u8.wrap z = IntKind.u8.wrap zy) (e2 : mk n1 g1 = mk n1 g1y) (e3 : mk n2 g2 = mk n2 g2y) => ansD_same e1 e2 e3)
  clear hp hq hpy hqy h1 h2 h3 h4 hT CS hc1 hc2 hc3 hc4 b1 b2 b3 b4 hl
  generalize ansD z n1 g1 n2 g2 = A at *
  generalize ansD zy n1 g1y n2 g2y = B at *
  have m1 := IntKind.wrap_u8' z
  have m2 := IntKind.wrap_u8' zy
  have HDD : ∃ D : Bool, decide (mk 32 B = mk 32 A) = D ∧ (mk 32 A == mk 32 B) = D := ⟨_, rfl, by
    by_cases h : mk 32 A = mk 32 B
    · rw [h]; simp
    · rw [decide_eq_false (fun e => h e.symm)]; simpa using h⟩
  obtain ⟨D, hD1, hD2⟩ := HDD
  have HD := Lib.hid hD2
  replace R2 := Lib.hid (fun (W : World) (t : TabAt W) (hb : Below w.heap.size w W) (J : Nat) (h : BytesAt W (some ⟨J, 0, none⟩) 32 A) => (by
    have h' := R2.out W t hb J h
    rw [hD1] at h'
    exact (show Calls Tryd.prog 13 #[.int .i64 zy, .slice py n1 c1y, .slice qy n2 c2y, .slice (some ⟨J, 0, none⟩) 32 32] W fun e W' => e = .returned (.bool D) ∧ Below W.heap.size W W' from h')))
  have y1 : ((IntKind.u8.wrap z == IntKind.u8.wrap zy) : Bool) = true := by simpa using hz
  have y2 : ((z % 256 == zy % 256) : Bool) = true := by rw [m1, m2] at hz; simpa using hz
  have y3 : z % 256 = zy % 256 := by rw [m1, m2] at hz; exact hz
  replace S1 := Lib.hid (fun (W : World) (hb : Below w.heap.size w W) => (by
    have h' := S1.out W hb
    rw [decide_eq_true hg] at h'
    exact (show Calls Tryd.prog 14 #[.slice p n1 c1, .slice py n1 c1y] W fun e W' => e = .returned (.bool true) ∧ W = W' from h')))
  replace S2 := Lib.hid (fun (W : World) (hb : Below w.heap.size w W) => (by
    have h' := S2.out W hb
    rw [decide_eq_false hh] at h'
    exact (show Calls Tryd.prog 14 #[.slice q n2 c2, .slice qy n2 c2y] W fun e W' => e = .returned (.bool false) ∧ W = W' from h')))
  clear hz m1 m2 hD1 hD2 SA hg hh
  go_enter Tryd.func5, Tryd.ntmps5
  go_wp2_with (first
  | (with_reducible show wpList _ _ _ (⟨some 2, Op.box 30 _, _, _, _, none⟩ :: _) _ _
     refine wpList_boxA_of rfl _ rfl #[.int .i64 z, .slice p n1 c1, .slice q n2 c2, .slice r n3 c3, .bool o, .int .i64 k] rfl ?_
     intro w1 x1 l1 s1
     have P1 := Lib.hid (show LwB w [bxO w.heap.size 30 #[.int .i64 z, .slice p n1 c1, .slice q n2 c2, .slice r n3 c3, .bool o, .int .i64 k]] w1 from (LwB.none w).add l1 x1 (Nat.le_refl _))
     clear x1 l1 s1)
  | (with_reducible show wpList _ _ _ (⟨some 3, Op.box 30 _, _, _, _, none⟩ :: _) _ _
     refine wpList_boxA_of rfl _ rfl #[.int .i64 zy, .slice py n1 c1y, .slice qy n2 c2y, .slice ry n3y c3y, .bool oy, .int .i64 ky] rfl ?_
     intro w2 x2 l2 s2
     have P2 := Lib.hid (show LwB w [bxO w1.heap.size 30 #[.int .i64 zy, .slice py n1 c1y, .slice qy n2 c2y, .slice ry n3y c3y, .bool oy, .int .i64 ky], bxO w.heap.size 30 #[.int .i64 z, .slice p n1 c1, .slice q n2 c2, .slice r n3 c3, .bool o, .int .i64 k]] w2 from P1.out.add l2 x2 (Nat.le_refl _))
     clear x2 l2 s2 P1
     generalize w1.heap.size = J at *
     have d0 : w2.cell? ⟨w.heap.size, 0, none⟩ = some (.int .i64 z) := (P2.out.bx (i := 1) rfl).cell 0
     have d1 : w2.cell? ⟨w.heap.size, 1, none⟩ = some (.slice p n1 c1) := (P2.out.bx (i := 1) rfl).cell 1
     have d2 : w2.cell? ⟨w.heap.size, 2, none⟩ = some (.slice q n2 c2) := (P2.out.bx (i := 1) rfl).cell 2
     have e0 : w2.cell? ⟨J, 0, none⟩ = some (.int .i64 zy) := (P2.out.bx (i := 0) rfl).cell 0
     have e1 : w2.cell? ⟨J, 1, none⟩ = some (.slice py n1 c1y) := (P2.out.bx (i := 0) rfl).cell 1
     have e2 : w2.cell? ⟨J, 2, none⟩ = some (.slice qy n2 c2y) := (P2.out.bx (i := 0) rfl).cell 2
     skip)
  | (go_at_call 11
     refine (RF.out w2 P2.out.low).mono ?_; rintro e w3 ⟨rfl, l3⟩
     have P3 := Lib.hid (P2.out.mono l3)
     clear l3 P2 RF d0 d1 d2 e0 e1 e2)
  | (with_reducible show wpList _ _ _ (⟨some 5, Op.alloc 25, _, _, _, _⟩ :: _) _ _
     refine wpList_boxA_new rowSum rfl rfl _ rfl ?_
     intro w4 x4 l4 s4
     have P4 := Lib.hid (show LwB w [bxO w3.heap.size 25 (cellsOf .u8 (mk 32 zeroK)), bxO J 30 #[.int .i64 zy, .slice py n1 c1y, .slice qy n2 c2y, .slice ry n3y c3y, .bool oy, .int .i64 ky], bxO w.heap.size 30 #[.int .i64 z, .slice p n1 c1, .slice q n2 c2, .slice r n3 c3, .bool o, .int .i64 k]] w4 from P3.out.add l4 x4 (Nat.le_refl _))
     clear x4 l4 s4 P3
     generalize w3.heap.size = J5 at *)
  | (with_reducible show wpList _ _ _ (⟨_, Op.store 25 (.tmp 5) _, _, _, _, none⟩ :: _) _ _
     refine wpList_boxA_put rowSum rfl _ _ rfl rfl J5 (cellsOf .u8 (mk 32 A)) (cellsOf .u8 (mk 32 zeroK)) (s32_size _) (s32_one _) (s32_size _) rfl rfl (P4.out.bx (i := 0) rfl) ?_
     intro w5 x5 k5 s5
     have P5 := Lib.hid (show LwB w [bxO J5 25 (cellsOf .u8 (mk 32 A)), bxO J 30 #[.int .i64 zy, .slice py n1 c1y, .slice qy n2 c2y, .slice ry n3y c3y, .bool oy, .int .i64 ky], bxO w.heap.size 30 #[.int .i64 z, .slice p n1 c1, .slice q n2 c2, .slice r n3 c3, .bool o, .int .i64 k]] w5 from P4.out.put 0 rfl x5 k5)
     clear x5 k5 s5 P4))
  have P6 := Lib.hid P5.out.drew
  clear P5
  refine wp_region_sched [(0, true), (1, true), (2, true), (3, true), (4, true), (5, true), (6, true), (7, false), (8, true)] (fun V => BoxA V w.heap.size 30 #[.int .i64 z, .slice p n1 c1, .slice q n2 c2, .slice r n3 c3, .bool o, .int .i64 k]) (by kernel_rfl) (by kernel_rfl) (P6.out.bx (i := 2) rfl) ?_
  refine walk_float rfl rfl (fun K hK => ?_)
  refine gives_askfield _ 0 rfl (by omega) w.heap.size rfl ?_
  go_simp
  refine hK _ ?_
  clear hK K
  refine walk_float rfl rfl (fun K hK => ?_)
  refine gives_cell 3 _ rfl ⟨w.heap.size, 0, none⟩ (.int .i64 z) rfl box_int (fun V hV => hV.cell 0) ?_
  go_simp
  refine hK _ ?_
  clear hK K
  refine walk_float rfl rfl (fun K hK => ?_)
  refine gives_askfield _ 1 rfl (by omega) w.heap.size rfl ?_
  go_simp
  refine hK _ ?_
  clear hK K
  refine walk_float rfl rfl (fun K hK => ?_)
  refine gives_cell 22 _ rfl ⟨w.heap.size, 1, none⟩ (.slice p n1 c1) rfl apart.box_bytes (fun V hV => hV.cell 1) ?_
  go_simp
  refine hK _ ?_
  clear hK K
  refine walk_float rfl rfl (fun K hK => ?_)
  refine gives_askfield _ 2 rfl (by omega) w.heap.size rfl ?_
  go_simp
  refine hK _ ?_
  clear hK K
  refine walk_float rfl rfl (fun K hK => ?_)
  refine gives_cell 22 _ rfl ⟨w.heap.size, 2, none⟩ (.slice q n2 c2) rfl apart.box_bytes (fun V hV => hV.cell 2) ?_
  go_simp
  refine hK _ ?_
  clear hK K
  refine walk_float rfl rfl (fun K hK => ?_)
  refine gives_wholeSum _ rfl J5 rfl ?_
  go_simp
  refine hK _ ?_
  clear hK K
  refine walk_done rfl rfl (fun K hK => ?_)
  refine done_call4c _ _ _ _ _ _ rfl 13 rfl (enters_of Tryd.func13 (by kernel_rfl) rfl) _ _ _ _ rfl rfl rfl rfl _ (R1.out _ (HT.out.on P6.out.low) P6.out.low J5 (box_s32 (P6.out.bx (i := 0) rfl))) ?_
  rintro e w7 ⟨rfl, l7⟩
  have P7 := Lib.hid (P6.out.mono l7)
  clear l7 P6
  refine ⟨_, rfl, P7.out.bx (i := 2) rfl, ?_⟩
  go_simp
  refine hK _ _ ?_
  clear hK K
  refine walk_float rfl rfl (fun K hK => ?_)
  refine gives_not2 _ _ rfl true false rfl rfl ?_
  go_simp
  refine hK _ ?_
  clear hK K
  refine walk_nil ?_
  have d0 : w7.cell? ⟨w.heap.size, 0, none⟩ = some (.int .i64 z) := (P7.out.bx (i := 2) rfl).cell 0
  have d1 : w7.cell? ⟨w.heap.size, 1, none⟩ = some (.slice p n1 c1) := (P7.out.bx (i := 2) rfl).cell 1
  have d2 : w7.cell? ⟨w.heap.size, 2, none⟩ = some (.slice q n2 c2) := (P7.out.bx (i := 2) rfl).cell 2
  have e0 : w7.cell? ⟨J, 0, none⟩ = some (.int .i64 zy) := (P7.out.bx (i := 1) rfl).cell 0
  have e1 : w7.cell? ⟨J, 1, none⟩ = some (.slice py n1 c1y) := (P7.out.bx (i := 1) rfl).cell 1
  have e2 : w7.cell? ⟨J, 2, none⟩ = some (.slice qy n2 c2y) := (P7.out.bx (i := 1) rfl).cell 2
  go_wp2_with (first
  | (go_at_call 14
     refine (S1.out w7 P7.out.low).mono ?_; rintro e wq ⟨rfl, rfl⟩; clear S1)
  | (go_at_call 14
     refine (S2.out _ P7.out.low).mono ?_; rintro e wq ⟨rfl, rfl⟩; clear S2)
  | (go_at_call 11
     refine (RG.out _ P7.out.low).mono ?_; rintro e w8 ⟨rfl, l8⟩
     have P8 := Lib.hid (P7.out.mono l8)
     clear l8 P7 RG d0 d1 d2 e0 e1 e2)
  | (with_reducible show wpList _ _ _ (⟨some 7, Op.alloc 25, _, _, _, _⟩ :: _) _ _
     refine wpList_boxA_new rowSum rfl rfl _ rfl ?_
     intro w9 x9 l9 s9
     have P9 := Lib.hid (show LwB w [bxO w8.heap.size 25 (cellsOf .u8 (mk 32 zeroK)), bxO J5 25 (cellsOf .u8 (mk 32 A)), bxO J 30 #[.int .i64 zy, .slice py n1 c1y, .slice qy n2 c2y, .slice ry n3y c3y, .bool oy, .int .i64 ky], bxO w.heap.size 30 #[.int .i64 z, .slice p n1 c1, .slice q n2 c2, .slice r n3 c3, .bool o, .int .i64 k]] w9 from P8.out.add l9 x9 (Nat.le_refl _))
     clear x9 l9 s9 P8
     generalize w8.heap.size = J7 at *)
  | (with_reducible show wpList _ _ _ (⟨_, Op.store 25 (.tmp 7) _, _, _, _, none⟩ :: _) _ _
     refine wpList_boxA_put rowSum rfl _ _ rfl rfl J7 (cellsOf .u8 (mk 32 B)) (cellsOf .u8 (mk 32 zeroK)) (s32_size _) (s32_one _) (s32_size _) rfl rfl (P9.out.bx (i := 0) rfl) ?_
     intro wa xa ka sa
     have Pa := Lib.hid (show LwB w [bxO J7 25 (cellsOf .u8 (mk 32 B)), bxO J5 25 (cellsOf .u8 (mk 32 A)), bxO J 30 #[.int .i64 zy, .slice py n1 c1y, .slice qy n2 c2y, .slice ry n3y c3y, .bool oy, .int .i64 ky], bxO w.heap.size 30 #[.int .i64 z, .slice p n1 c1, .slice q n2 c2, .slice r n3 c3, .bool o, .int .i64 k]] wa from P9.out.put 0 rfl xa ka)
     clear xa ka sa P9))
  have Pb := Lib.hid Pa.out.drew
  clear Pa
  refine wp_region_sched [(0, true), (1, true), (2, true), (3, true), (4, true), (5, true), (6, true), (8, true), (7, false), (9, true), (10, true), (11, true), (12, true), (13, true), (14, true), (15, true)] (fun V => BoxA V J 30 #[.int .i64 zy, .slice py n1 c1y, .slice qy n2 c2y, .slice ry n3y c3y, .bool oy, .int .i64 ky] ∧ BoxA V J5 25 (cellsOf .u8 (mk 32 A)) ∧ BoxA V J7 25 (cellsOf .u8 (mk 32 B))) (by kernel_rfl) (by kernel_rfl) ⟨Pb.out.bx (i := 2) rfl, Pb.out.bx (i := 1) rfl, Pb.out.bx (i := 0) rfl⟩ ?_
  refine walk_float rfl rfl (fun K hK => ?_)
  refine gives_askfield _ 0 rfl (by omega) J rfl ?_
  go_simp
  refine hK _ ?_
  clear hK K
  refine walk_float rfl rfl (fun K hK => ?_)
  refine gives_cell 3 _ rfl ⟨J, 0, none⟩ (.int .i64 zy) rfl box_int (fun V hV => hV.1.cell 0) ?_
  go_simp
  refine hK _ ?_
  clear hK K
  refine walk_float rfl rfl (fun K hK => ?_)
  refine gives_askfield _ 1 rfl (by omega) J rfl ?_
  go_simp
  refine hK _ ?_
  clear hK K
  refine walk_float rfl rfl (fun K hK => ?_)
  refine gives_cell 22 _ rfl ⟨J, 1, none⟩ (.slice py n1 c1y) rfl apart.box_bytes (fun V hV => hV.1.cell 1) ?_
  go_simp
  refine hK _ ?_
  clear hK K
  refine walk_float rfl rfl (fun K hK => ?_)
  refine gives_askfield _ 2 rfl (by omega) J rfl ?_
  go_simp
  refine hK _ ?_
  clear hK K
  refine walk_float rfl rfl (fun K hK => ?_)
  refine gives_cell 22 _ rfl ⟨J, 2, none⟩ (.slice qy n2 c2y) rfl apart.box_bytes (fun V hV => hV.1.cell 2) ?_
  go_simp
  refine hK _ ?_
  clear hK K
  refine walk_float rfl rfl (fun K hK => ?_)
  refine gives_wholeSum _ rfl J5 rfl ?_
  go_simp
  refine hK _ ?_
  clear hK K
  refine walk_float rfl rfl (fun K hK => ?_)
  refine gives_move _ rfl ?_
  go_simp
  refine hK _ ?_
  clear hK K
  refine walk_done rfl rfl (fun K hK => ?_)
  refine done_call4c _ _ _ _ _ _ rfl 13 rfl (enters_of Tryd.func13 (by kernel_rfl) rfl) _ _ _ _ rfl rfl rfl rfl _ (R2.out _ (HT.out.on Pb.out.low) Pb.out.low J5 (box_s32 (Pb.out.bx (i := 1) rfl))) ?_
  rintro e wc ⟨rfl, lc⟩
  have Pc := Lib.hid (Pb.out.mono lc)
  clear lc Pb
  refine ⟨_, rfl, ⟨Pc.out.bx (i := 2) rfl, Pc.out.bx (i := 1) rfl, Pc.out.bx (i := 0) rfl⟩, ?_⟩
  go_simp
  refine hK _ _ ?_
  clear hK K
  refine walk_float rfl rfl (fun K hK => ?_)
  refine gives_move _ rfl ?_
  go_simp
  refine hK _ ?_
  clear hK K
  refine walk_float rfl rfl (fun K hK => ?_)
  refine gives_s32_load _ rfl J5 A rfl (fun V hV => hV.2.1) ?_
  go_simp
  refine hK _ ?_
  clear hK K
  refine walk_float rfl rfl (fun K hK => ?_)
  refine gives_s32_load _ rfl J7 B rfl (fun V hV => hV.2.2) ?_
  go_simp
  refine hK _ ?_
  clear hK K
  refine walk_float rfl rfl (fun K hK => ?_)
  refine gives_s32_eql _ _ rfl A B rfl rfl D HD.out ?_
  go_simp
  refine hK _ ?_
  clear hK K
  refine walk_float rfl rfl (fun K hK => ?_)
  refine gives_pickF _ _ _ rfl rfl (.bool D) rfl ?_
  go_simp
  refine hK _ ?_
  clear hK K
  refine walk_float rfl rfl (fun K hK => ?_)
  refine gives_beql _ _ rfl D D true rfl rfl (by simp) ?_
  go_simp
  refine hK _ ?_
  clear hK K
  refine walk_float rfl rfl (fun K hK => ?_)
  refine gives_assign _ rfl ?_
  go_simp
  refine hK _ ?_
  clear hK K
  refine walk_nil ?_
  go_wp2
  go_ret
  exact ⟨rfl, Pc.out.low⟩
set_option maxRecDepth 100000 in
set_option maxHeartbeats 4000000 in
theorem like4 (CS : ChapSpec) {w : World} (hT : TabAt w) (z : Int) (p : Option Addr) (n1 c1 : Nat) (g1 : Nat → Nat) (q : Option Addr) (n2 c2 : Nat) (g2 : Nat → Nat) (r : Option Addr) (n3 c3 : Nat) (g3 : Nat → Nat) (o : Bool) (k : Int) (zy : Int) (py : Option Addr) (c1y : Nat) (g1y : Nat → Nat) (qy : Option Addr) (c2y : Nat) (g2y : Nat → Nat) (ry : Option Addr) (n3y c3y : Nat) (g3y : Nat → Nat) (oy : Bool) (ky : Int) (k1 : Row w p n1 c1 g1) (k2 : Row w q n2 c2 g2) (k3 : Row w py n1 c1y g1y) (k4 : Row w qy n2 c2y g2y) (hl : n1 + n2 + n1 + n2 ≤ 4096) (hz : IntKind.u8.wrap z = IntKind.u8.wrap zy) (hg : mk n1 g1 = mk n1 g1y) (hh : mk n2 g2 = mk n2 g2y) :
    Calls Tryd.prog 5 #[.agg #[.int .i64 z, .slice p n1 c1, .slice q n2 c2, .slice r n3 c3, .bool o, .int .i64 k], .agg #[.int .i64 zy, .slice py n1 c1y, .slice qy n2 c2y, .slice ry n3y c3y, .bool oy, .int .i64 ky]] w fun e w' => e = .returned (.bool true) ∧ Below w.heap.size w w' := by
  have t1 : IntKind.i64.wrap ((n1 : Int) + (n2 : Int)) = (n1 : Int) + (n2 : Int) := IntWalk.i64_in _ (by have := k1.1.2.2; have := k2.1.2.2; omega)
  have t2 : IntKind.i64.wrap ((n1 : Int) + (n2 : Int) + (n1 : Int)) = (n1 : Int) + (n2 : Int) + (n1 : Int) := IntWalk.i64_in _ (by have := k1.1.2.2; have := k2.1.2.2; have := k3.1.2.2; omega)
  have t3 : IntKind.i64.wrap ((n1 : Int) + (n2 : Int) + (n1 : Int) + (n2 : Int)) = (n1 : Int) + (n2 : Int) + (n1 : Int) + (n2 : Int) := IntWalk.i64_in _ (by have := k1.1.2.2; have := k2.1.2.2; have := k3.1.2.2; have := k4.1.2.2; omega)
  have f1 : decide ((4096 : Int) < (n1 : Int) + (n2 : Int) + (n1 : Int) + (n2 : Int)) = false := by simp; omega
  obtain ⟨⟨h1, hc1, b1⟩, hp⟩ := k1
  obtain ⟨⟨h2, hc2, b2⟩, hq⟩ := k2
  obtain ⟨⟨h3, hc3, b3⟩, hpy⟩ := k3
  obtain ⟨⟨h4, hc4, b4⟩, hqy⟩ := k4
  have HT := Lib.hid hT
  have RF := Lib.hid (fun (W : World) (hb : Below w.heap.size w W) => refAnswer_any (c1 := c1) (c2 := c2) z (by omega) h1 h2 (hp.below hb) (hq.below hb))
  have R1 := Lib.hid (fun (W : World) (t : TabAt W) (hb : Below w.heap.size w W) (J : Nat) (h : BytesAt W (some ⟨J, 0, none⟩) 32 (ansD z n1 g1 n2 g2)) => (by
    have h' := CS.right t z (c3 := 32) (n3 := 32) (g3 := ansD z n1 g1 n2 g2) (by omega) hc1 hc2 (by omega) h1 h2 (fun j _ => ansD_lt _ _ _ _ _ j) (hp.below hb) (hq.below hb) h
    rw [decide_eq_true rfl] at h'
    exact (show Calls Tryd.prog 13 #[.int .i64 z, .slice p n1 c1, .slice q n2 c2, .slice (some ⟨J, 0, none⟩) 32 32] W fun e W' => e = .returned (.bool true) ∧ Below W.heap.size W W' from h')))
  have RG := Lib.hid (fun (W : World) (hb : Below w.heap.size w W) => refAnswer_any (c1 := c1y) (c2 := c2y) zy (by omega) h3 h4 (hpy.below hb) (hqy.below hb))
  have S1 := Lib.hid (fun (W : World) (hb : Below w.heap.size w W) => Same_dec p n1 c1 py n1 c1y g1 g1y h1 h3 W (hp.below hb) (hpy.below hb))
  have S2 := Lib.hid (fun (W : World) (hb : Below w.heap.size w W) => Same_dec q n2 c2 qy n2 c2y g2 g2y h2 h4 W (hq.below hb) (hqy.below hb))
  have R2 := Lib.hid (fun (W : World) (t : TabAt W) (hb : Below w.heap.size w W) (J : Nat) (h : BytesAt W (some ⟨J, 0, none⟩) 32 (ansD z n1 g1 n2 g2)) => CS.right t zy (c3 := 32) (n3 := 32) (g3 := ansD z n1 g1 n2 g2) (by omega) hc3 hc4 (by omega) h3 h4 (fun j _ => ansD_lt _ _ _ _ _ j) (hpy.below hb) (hqy.below hb) h)
  have SA := Lib.hid (fun (e1 : IntKind.u8.wrap z = IntKind.u8.wrap zy) (e2 : mk n1 g1 = mk n1 g1y) (e3 : mk n2 g2 = mk n2 g2y) => ansD_same e1 e2 e3)
  clear hp hq hpy hqy h1 h2 h3 h4 hT CS hc1 hc2 hc3 hc4 b1 b2 b3 b4 hl
  generalize ansD z n1 g1 n2 g2 = A at *
  generalize ansD zy n1 g1y n2 g2y = B at *
  have m1 := IntKind.wrap_u8' z
  have m2 := IntKind.wrap_u8' zy
  have HDD : ∃ D : Bool, decide (mk 32 B = mk 32 A) = D ∧ (mk 32 A == mk 32 B) = D := ⟨_, rfl, by
    by_cases h : mk 32 A = mk 32 B
    · rw [h]; simp
    · rw [decide_eq_false (fun e => h e.symm)]; simpa using h⟩
  obtain ⟨D, hD1, hD2⟩ := HDD
  have HD := Lib.hid hD2
  replace R2 := Lib.hid (fun (W : World) (t : TabAt W) (hb : Below w.heap.size w W) (J : Nat) (h : BytesAt W (some ⟨J, 0, none⟩) 32 A) => (by
    have h' := R2.out W t hb J h
    rw [decide_eq_true (by rw [SA.out hz hg hh])] at h'
    exact (show Calls Tryd.prog 13 #[.int .i64 zy, .slice py n1 c1y, .slice qy n2 c2y, .slice (some ⟨J, 0, none⟩) 32 32] W fun e W' => e = .returned (.bool true) ∧ Below W.heap.size W W' from h')))
  have y1 : ((IntKind.u8.wrap z == IntKind.u8.wrap zy) : Bool) = true := by simpa using hz
  have y2 : ((z % 256 == zy % 256) : Bool) = true := by rw [m1, m2] at hz; simpa using hz
  have y3 : z % 256 = zy % 256 := by rw [m1, m2] at hz; exact hz
  replace S1 := Lib.hid (fun (W : World) (hb : Below w.heap.size w W) => (by
    have h' := S1.out W hb
    rw [decide_eq_true hg] at h'
    exact (show Calls Tryd.prog 14 #[.slice p n1 c1, .slice py n1 c1y] W fun e W' => e = .returned (.bool true) ∧ W = W' from h')))
  replace S2 := Lib.hid (fun (W : World) (hb : Below w.heap.size w W) => (by
    have h' := S2.out W hb
    rw [decide_eq_true hh] at h'
    exact (show Calls Tryd.prog 14 #[.slice q n2 c2, .slice qy n2 c2y] W fun e W' => e = .returned (.bool true) ∧ W = W' from h')))
  clear hz m1 m2 hD1 hD2 SA hg hh HD
  go_enter Tryd.func5, Tryd.ntmps5
  go_wp2_with (first
  | (with_reducible show wpList _ _ _ (⟨some 2, Op.box 30 _, _, _, _, none⟩ :: _) _ _
     refine wpList_boxA_of rfl _ rfl #[.int .i64 z, .slice p n1 c1, .slice q n2 c2, .slice r n3 c3, .bool o, .int .i64 k] rfl ?_
     intro w1 x1 l1 s1
     have P1 := Lib.hid (show LwB w [bxO w.heap.size 30 #[.int .i64 z, .slice p n1 c1, .slice q n2 c2, .slice r n3 c3, .bool o, .int .i64 k]] w1 from (LwB.none w).add l1 x1 (Nat.le_refl _))
     clear x1 l1 s1)
  | (with_reducible show wpList _ _ _ (⟨some 3, Op.box 30 _, _, _, _, none⟩ :: _) _ _
     refine wpList_boxA_of rfl _ rfl #[.int .i64 zy, .slice py n1 c1y, .slice qy n2 c2y, .slice ry n3y c3y, .bool oy, .int .i64 ky] rfl ?_
     intro w2 x2 l2 s2
     have P2 := Lib.hid (show LwB w [bxO w1.heap.size 30 #[.int .i64 zy, .slice py n1 c1y, .slice qy n2 c2y, .slice ry n3y c3y, .bool oy, .int .i64 ky], bxO w.heap.size 30 #[.int .i64 z, .slice p n1 c1, .slice q n2 c2, .slice r n3 c3, .bool o, .int .i64 k]] w2 from P1.out.add l2 x2 (Nat.le_refl _))
     clear x2 l2 s2 P1
     generalize w1.heap.size = J at *
     have d0 : w2.cell? ⟨w.heap.size, 0, none⟩ = some (.int .i64 z) := (P2.out.bx (i := 1) rfl).cell 0
     have d1 : w2.cell? ⟨w.heap.size, 1, none⟩ = some (.slice p n1 c1) := (P2.out.bx (i := 1) rfl).cell 1
     have d2 : w2.cell? ⟨w.heap.size, 2, none⟩ = some (.slice q n2 c2) := (P2.out.bx (i := 1) rfl).cell 2
     have e0 : w2.cell? ⟨J, 0, none⟩ = some (.int .i64 zy) := (P2.out.bx (i := 0) rfl).cell 0
     have e1 : w2.cell? ⟨J, 1, none⟩ = some (.slice py n1 c1y) := (P2.out.bx (i := 0) rfl).cell 1
     have e2 : w2.cell? ⟨J, 2, none⟩ = some (.slice qy n2 c2y) := (P2.out.bx (i := 0) rfl).cell 2
     skip)
  | (go_at_call 11
     refine (RF.out w2 P2.out.low).mono ?_; rintro e w3 ⟨rfl, l3⟩
     have P3 := Lib.hid (P2.out.mono l3)
     clear l3 P2 RF d0 d1 d2 e0 e1 e2)
  | (with_reducible show wpList _ _ _ (⟨some 5, Op.alloc 25, _, _, _, _⟩ :: _) _ _
     refine wpList_boxA_new rowSum rfl rfl _ rfl ?_
     intro w4 x4 l4 s4
     have P4 := Lib.hid (show LwB w [bxO w3.heap.size 25 (cellsOf .u8 (mk 32 zeroK)), bxO J 30 #[.int .i64 zy, .slice py n1 c1y, .slice qy n2 c2y, .slice ry n3y c3y, .bool oy, .int .i64 ky], bxO w.heap.size 30 #[.int .i64 z, .slice p n1 c1, .slice q n2 c2, .slice r n3 c3, .bool o, .int .i64 k]] w4 from P3.out.add l4 x4 (Nat.le_refl _))
     clear x4 l4 s4 P3
     generalize w3.heap.size = J5 at *)
  | (with_reducible show wpList _ _ _ (⟨_, Op.store 25 (.tmp 5) _, _, _, _, none⟩ :: _) _ _
     refine wpList_boxA_put rowSum rfl _ _ rfl rfl J5 (cellsOf .u8 (mk 32 A)) (cellsOf .u8 (mk 32 zeroK)) (s32_size _) (s32_one _) (s32_size _) rfl rfl (P4.out.bx (i := 0) rfl) ?_
     intro w5 x5 k5 s5
     have P5 := Lib.hid (show LwB w [bxO J5 25 (cellsOf .u8 (mk 32 A)), bxO J 30 #[.int .i64 zy, .slice py n1 c1y, .slice qy n2 c2y, .slice ry n3y c3y, .bool oy, .int .i64 ky], bxO w.heap.size 30 #[.int .i64 z, .slice p n1 c1, .slice q n2 c2, .slice r n3 c3, .bool o, .int .i64 k]] w5 from P4.out.put 0 rfl x5 k5)
     clear x5 k5 s5 P4))
  have P6 := Lib.hid P5.out.drew
  clear P5
  refine wp_region_sched [(0, true), (1, true), (2, true), (3, true), (4, true), (5, true), (6, true), (7, false), (8, true)] (fun V => BoxA V w.heap.size 30 #[.int .i64 z, .slice p n1 c1, .slice q n2 c2, .slice r n3 c3, .bool o, .int .i64 k]) (by kernel_rfl) (by kernel_rfl) (P6.out.bx (i := 2) rfl) ?_
  refine walk_float rfl rfl (fun K hK => ?_)
  refine gives_askfield _ 0 rfl (by omega) w.heap.size rfl ?_
  go_simp
  refine hK _ ?_
  clear hK K
  refine walk_float rfl rfl (fun K hK => ?_)
  refine gives_cell 3 _ rfl ⟨w.heap.size, 0, none⟩ (.int .i64 z) rfl box_int (fun V hV => hV.cell 0) ?_
  go_simp
  refine hK _ ?_
  clear hK K
  refine walk_float rfl rfl (fun K hK => ?_)
  refine gives_askfield _ 1 rfl (by omega) w.heap.size rfl ?_
  go_simp
  refine hK _ ?_
  clear hK K
  refine walk_float rfl rfl (fun K hK => ?_)
  refine gives_cell 22 _ rfl ⟨w.heap.size, 1, none⟩ (.slice p n1 c1) rfl apart.box_bytes (fun V hV => hV.cell 1) ?_
  go_simp
  refine hK _ ?_
  clear hK K
  refine walk_float rfl rfl (fun K hK => ?_)
  refine gives_askfield _ 2 rfl (by omega) w.heap.size rfl ?_
  go_simp
  refine hK _ ?_
  clear hK K
  refine walk_float rfl rfl (fun K hK => ?_)
  refine gives_cell 22 _ rfl ⟨w.heap.size, 2, none⟩ (.slice q n2 c2) rfl apart.box_bytes (fun V hV => hV.cell 2) ?_
  go_simp
  refine hK _ ?_
  clear hK K
  refine walk_float rfl rfl (fun K hK => ?_)
  refine gives_wholeSum _ rfl J5 rfl ?_
  go_simp
  refine hK _ ?_
  clear hK K
  refine walk_done rfl rfl (fun K hK => ?_)
  refine done_call4c _ _ _ _ _ _ rfl 13 rfl (enters_of Tryd.func13 (by kernel_rfl) rfl) _ _ _ _ rfl rfl rfl rfl _ (R1.out _ (HT.out.on P6.out.low) P6.out.low J5 (box_s32 (P6.out.bx (i := 0) rfl))) ?_
  rintro e w7 ⟨rfl, l7⟩
  have P7 := Lib.hid (P6.out.mono l7)
  clear l7 P6
  refine ⟨_, rfl, P7.out.bx (i := 2) rfl, ?_⟩
  go_simp
  refine hK _ _ ?_
  clear hK K
  refine walk_float rfl rfl (fun K hK => ?_)
  refine gives_not2 _ _ rfl true false rfl rfl ?_
  go_simp
  refine hK _ ?_
  clear hK K
  refine walk_nil ?_
  have d0 : w7.cell? ⟨w.heap.size, 0, none⟩ = some (.int .i64 z) := (P7.out.bx (i := 2) rfl).cell 0
  have d1 : w7.cell? ⟨w.heap.size, 1, none⟩ = some (.slice p n1 c1) := (P7.out.bx (i := 2) rfl).cell 1
  have d2 : w7.cell? ⟨w.heap.size, 2, none⟩ = some (.slice q n2 c2) := (P7.out.bx (i := 2) rfl).cell 2
  have e0 : w7.cell? ⟨J, 0, none⟩ = some (.int .i64 zy) := (P7.out.bx (i := 1) rfl).cell 0
  have e1 : w7.cell? ⟨J, 1, none⟩ = some (.slice py n1 c1y) := (P7.out.bx (i := 1) rfl).cell 1
  have e2 : w7.cell? ⟨J, 2, none⟩ = some (.slice qy n2 c2y) := (P7.out.bx (i := 1) rfl).cell 2
  go_wp2_with (first
  | (go_at_call 14
     refine (S1.out w7 P7.out.low).mono ?_; rintro e wq ⟨rfl, rfl⟩; clear S1)
  | (go_at_call 14
     refine (S2.out _ P7.out.low).mono ?_; rintro e wq ⟨rfl, rfl⟩; clear S2)
  | (go_at_call 11
     refine (RG.out _ P7.out.low).mono ?_; rintro e w8 ⟨rfl, l8⟩
     have P8 := Lib.hid (P7.out.mono l8)
     clear l8 P7 RG d0 d1 d2 e0 e1 e2)
  | (with_reducible show wpList _ _ _ (⟨some 7, Op.alloc 25, _, _, _, _⟩ :: _) _ _
     refine wpList_boxA_new rowSum rfl rfl _ rfl ?_
     intro w9 x9 l9 s9
     have P9 := Lib.hid (show LwB w [bxO w8.heap.size 25 (cellsOf .u8 (mk 32 zeroK)), bxO J5 25 (cellsOf .u8 (mk 32 A)), bxO J 30 #[.int .i64 zy, .slice py n1 c1y, .slice qy n2 c2y, .slice ry n3y c3y, .bool oy, .int .i64 ky], bxO w.heap.size 30 #[.int .i64 z, .slice p n1 c1, .slice q n2 c2, .slice r n3 c3, .bool o, .int .i64 k]] w9 from P8.out.add l9 x9 (Nat.le_refl _))
     clear x9 l9 s9 P8
     generalize w8.heap.size = J7 at *)
  | (with_reducible show wpList _ _ _ (⟨_, Op.store 25 (.tmp 7) _, _, _, _, none⟩ :: _) _ _
     refine wpList_boxA_put rowSum rfl _ _ rfl rfl J7 (cellsOf .u8 (mk 32 B)) (cellsOf .u8 (mk 32 zeroK)) (s32_size _) (s32_one _) (s32_size _) rfl rfl (P9.out.bx (i := 0) rfl) ?_
     intro wa xa ka sa
     have Pa := Lib.hid (show LwB w [bxO J7 25 (cellsOf .u8 (mk 32 B)), bxO J5 25 (cellsOf .u8 (mk 32 A)), bxO J 30 #[.int .i64 zy, .slice py n1 c1y, .slice qy n2 c2y, .slice ry n3y c3y, .bool oy, .int .i64 ky], bxO w.heap.size 30 #[.int .i64 z, .slice p n1 c1, .slice q n2 c2, .slice r n3 c3, .bool o, .int .i64 k]] wa from P9.out.put 0 rfl xa ka)
     clear xa ka sa P9))
  have Pb := Lib.hid Pa.out.drew
  clear Pa
  refine wp_region_sched [(0, true), (1, true), (2, true), (3, true), (4, true), (5, true), (6, true), (8, true), (7, false), (9, true), (10, true), (11, true), (12, true), (13, true), (14, true), (15, true)] (fun V => BoxA V J 30 #[.int .i64 zy, .slice py n1 c1y, .slice qy n2 c2y, .slice ry n3y c3y, .bool oy, .int .i64 ky] ∧ BoxA V J5 25 (cellsOf .u8 (mk 32 A)) ∧ BoxA V J7 25 (cellsOf .u8 (mk 32 B))) (by kernel_rfl) (by kernel_rfl) ⟨Pb.out.bx (i := 2) rfl, Pb.out.bx (i := 1) rfl, Pb.out.bx (i := 0) rfl⟩ ?_
  refine walk_float rfl rfl (fun K hK => ?_)
  refine gives_askfield _ 0 rfl (by omega) J rfl ?_
  go_simp
  refine hK _ ?_
  clear hK K
  refine walk_float rfl rfl (fun K hK => ?_)
  refine gives_cell 3 _ rfl ⟨J, 0, none⟩ (.int .i64 zy) rfl box_int (fun V hV => hV.1.cell 0) ?_
  go_simp
  refine hK _ ?_
  clear hK K
  refine walk_float rfl rfl (fun K hK => ?_)
  refine gives_askfield _ 1 rfl (by omega) J rfl ?_
  go_simp
  refine hK _ ?_
  clear hK K
  refine walk_float rfl rfl (fun K hK => ?_)
  refine gives_cell 22 _ rfl ⟨J, 1, none⟩ (.slice py n1 c1y) rfl apart.box_bytes (fun V hV => hV.1.cell 1) ?_
  go_simp
  refine hK _ ?_
  clear hK K
  refine walk_float rfl rfl (fun K hK => ?_)
  refine gives_askfield _ 2 rfl (by omega) J rfl ?_
  go_simp
  refine hK _ ?_
  clear hK K
  refine walk_float rfl rfl (fun K hK => ?_)
  refine gives_cell 22 _ rfl ⟨J, 2, none⟩ (.slice qy n2 c2y) rfl apart.box_bytes (fun V hV => hV.1.cell 2) ?_
  go_simp
  refine hK _ ?_
  clear hK K
  refine walk_float rfl rfl (fun K hK => ?_)
  refine gives_wholeSum _ rfl J5 rfl ?_
  go_simp
  refine hK _ ?_
  clear hK K
  refine walk_float rfl rfl (fun K hK => ?_)
  refine gives_move _ rfl ?_
  go_simp
  refine hK _ ?_
  clear hK K
  refine walk_done rfl rfl (fun K hK => ?_)
  refine done_call4c _ _ _ _ _ _ rfl 13 rfl (enters_of Tryd.func13 (by kernel_rfl) rfl) _ _ _ _ rfl rfl rfl rfl _ (R2.out _ (HT.out.on Pb.out.low) Pb.out.low J5 (box_s32 (Pb.out.bx (i := 1) rfl))) ?_
  rintro e wc ⟨rfl, lc⟩
  have Pc := Lib.hid (Pb.out.mono lc)
  clear lc Pb
  refine ⟨_, rfl, ⟨Pc.out.bx (i := 2) rfl, Pc.out.bx (i := 1) rfl, Pc.out.bx (i := 0) rfl⟩, ?_⟩
  go_simp
  refine hK _ _ ?_
  clear hK K
  refine walk_float rfl rfl (fun K hK => ?_)
  refine gives_move _ rfl ?_
  go_simp
  refine hK _ ?_
  clear hK K
  refine apart.walk_idle rfl rfl ?_
  go_simp
  refine apart.walk_idle rfl rfl ?_
  go_simp
  refine apart.walk_idle rfl rfl ?_
  go_simp
  refine walk_float rfl rfl (fun K hK => ?_)
  refine gives_pickT _ _ _ rfl rfl (.bool true) rfl ?_
  go_simp
  refine hK _ ?_
  clear hK K
  refine walk_float rfl rfl (fun K hK => ?_)
  refine gives_beql _ _ rfl true true true rfl rfl (by simp) ?_
  go_simp
  refine hK _ ?_
  clear hK K
  refine walk_float rfl rfl (fun K hK => ?_)
  refine gives_assign _ rfl ?_
  go_simp
  refine hK _ ?_
  clear hK K
  refine walk_nil ?_
  go_wp2
  go_ret
  exact ⟨rfl, Pc.out.low⟩
theorem walk (CS : ChapSpec) {w : World} (hT : TabAt w) (z : Int) (p : Option Addr) (n1 c1 : Nat) (g1 : Nat → Nat) (q : Option Addr) (n2 c2 : Nat) (g2 : Nat → Nat) (r : Option Addr) (n3 c3 : Nat) (g3 : Nat → Nat) (o : Bool) (k : Int) (s1 : (∀ i, i < n1 → g1 i < 256) ∧ n1 ≤ c1 ∧ n1 ≤ 140737488351232) (s2 : (∀ i, i < n2 → g2 i < 256) ∧ n2 ≤ c2 ∧ n2 ≤ 140737488351232) (hp : BytesAt w p n1 g1) (hq : BytesAt w q n2 g2) (zy : Int) (py : Option Addr) (m1 c1y : Nat) (g1y : Nat → Nat) (qy : Option Addr) (m2 c2y : Nat) (g2y : Nat → Nat) (ry : Option Addr) (n3y c3y : Nat) (g3y : Nat → Nat) (oy : Bool) (ky : Int) (s3 : (∀ i, i < m1 → g1y i < 256) ∧ m1 ≤ c1y ∧ m1 ≤ 140737488351232) (s4 : (∀ i, i < m2 → g2y i < 256) ∧ m2 ≤ c2y ∧ m2 ≤ 140737488351232) (hpy : BytesAt w py m1 g1y) (hqy : BytesAt w qy m2 g2y) :
    Calls Tryd.prog 5 #[.agg #[.int .i64 z, .slice p n1 c1, .slice q n2 c2, .slice r n3 c3, .bool o, .int .i64 k], .agg #[.int .i64 zy, .slice py m1 c1y, .slice qy m2 c2y, .slice ry n3y c3y, .bool oy, .int .i64 ky]] w fun e w' => e = .returned (.bool true) ∧ Below w.heap.size w w' := by
  have k1 : Row w p n1 c1 g1 := ⟨s1, hp⟩
  have k2 : Row w q n2 c2 g2 := ⟨s2, hq⟩
  have k3 : Row w py m1 c1y g1y := ⟨s3, hpy⟩
  have k4 : Row w qy m2 c2y g2y := ⟨s4, hqy⟩
  clear s1 s2 s3 s4 hp hq hpy hqy
  by_cases hl : n1 + n2 + m1 + m2 ≤ 4096
  · by_cases hn : n1 = m1
    · subst hn
      by_cases hm : n2 = m2
      · subst hm
        by_cases hz : IntKind.u8.wrap z = IntKind.u8.wrap zy
        · by_cases hg : mk n1 g1 = mk n1 g1y
          · by_cases hh : mk n2 g2 = mk n2 g2y
            · exact like4 CS hT z p n1 c1 g1 q n2 c2 g2 r n3 c3 g3 o k zy py  c1y g1y qy  c2y g2y ry n3y c3y g3y oy ky k1 k2 k3 k4 hl hz hg hh
            · exact like3 CS hT z p n1 c1 g1 q n2 c2 g2 r n3 c3 g3 o k zy py  c1y g1y qy  c2y g2y ry n3y c3y g3y oy ky k1 k2 k3 k4 hl hz hg hh
          · exact like2 CS hT z p n1 c1 g1 q n2 c2 g2 r n3 c3 g3 o k zy py  c1y g1y qy  c2y g2y ry n3y c3y g3y oy ky k1 k2 k3 k4 hl hz hg
        · exact like1 CS hT z p n1 c1 g1 q n2 c2 g2 r n3 c3 g3 o k zy py  c1y g1y qy  c2y g2y ry n3y c3y g3y oy ky k1 k2 k3 k4 hl hz
      · exact unlikeB CS hT z p n1 c1 g1 q n2 c2 g2 r n3 c3 g3 o k zy py  c1y g1y qy m2 c2y g2y ry n3y c3y g3y oy ky k1 k2 k3 k4 hl hm
    · exact unlikeA CS hT z p n1 c1 g1 q n2 c2 g2 r n3 c3 g3 o k zy py m1 c1y g1y qy m2 c2y g2y ry n3y c3y g3y oy ky k1 k2 k3 k4 hl hn
  · exact long CS hT z p n1 c1 g1 q n2 c2 g2 r n3 c3 g3 o k zy py m1 c1y g1y qy m2 c2y g2y ry n3y c3y g3y oy ky k1 k2 k3 k4 hl
theorem own : ownKnob Tryd.prog.godebug = none := by kernel_rfl
theorem laidOut : laidOutB Tryd.prog = true := by kernel_rfl
set_option maxRecDepth 100000 in
theorem lifted (os : Os) (started : os.Started) (H : Type) (enc : TypeId × Value → H) :
    ReturnsInHanded {} Tryd.checked os 5 .any (fun w args => (Rows.chapBoundSpec.pre enc Tryd.prog Tryd.f5 Rows.chapBoundRow.domain false w args ∧ laidMetH Tryd.prog Rows.chapBoundRow.laid w) ∧ sizedMet enc Tryd.prog Tryd.f5 (OpenSpec.ofChange Rows.chapBoundSpec) false w args) (Rows.chapBoundSpec.post enc Tryd.prog Tryd.f5 false true false false) := by
  refine returnsInHanded_of_change_and (C := Tryd.checked) (X := fun w _ => laidMetH Tryd.prog Rows.chapBoundRow.laid w) (fun _ _ _ hh h => h.of_heap hh) own started (by kernel_rfl) Tryd.func5
    (ChangeSpec.witness_shaped (enc := enc) (C := Tryd.checked) (os := os) (X := fun w _ => laidMetH Tryd.prog Rows.chapBoundRow.laid w) false (World.laidAll Tryd.prog os Rows.chapBoundRow.laid) #[.agg #[.int .i64 0, .slice none 0 0, .slice none 0 0, .slice none 0 0, .bool false, .int .i64 0], .agg #[.int .i64 0, .slice none 0 0, .slice none 0 0, .slice none 0 0, .bool false, .int .i64 0]] 8 (World.laidAll_os _ _ _)
      (World.shaped_of_ZipB (by kernel_rfl) (by kernel_rfl)) (by kernel_rfl) (by kernel_rfl) (by kernel_rfl)
      (by rw [MakeChecks.laidMetH_plain _ _ _ (by kernel_rfl)]; exact laidMet_laidAll _ (by kernel_rfl) (by kernel_rfl))) ?_
  intro W base args ds gs before hval0 hW hcnd hsz hL _
  have hT := tab_of_laid hL
  have hval : ∀ (j : Nat) t v, Tryd.f5.params[j]? = some t → args[j]? = some v → Value.okWide Tryd.prog W .any base t v := hval0
  have hW' := hW
  obtain ⟨p, q, hA0, hV, rfl, hfz, hnd⟩ := hW
  have hA : DataW.TrodAll enc Tryd.prog W 0 (fun _ => true) true Tryd.f5.params.toList args.toList ds p := hA0
  rw [Tryd.params5] at hA hval
  obtain ⟨v0, vs0, d0, ds0, p0, q0, hargs, rfl, rfl, h0, r0⟩ := trodAll_cons hA
  obtain ⟨v1, vs1, d1, ds1, p1, q1, rfl, rfl, rfl, h1, r1⟩ := trodAll_cons r0
  obtain ⟨rfl, rfl, rfl⟩ := trodAll_nil r1
  obtain rfl : args = #[v0, v1] := by cases args; simp_all
  obtain ⟨rfl, rfl⟩ := trodVars_none hV
  have k0 := h0
  have lt0 : ∀ x ∈ p0, x.block < W.heap.size := by obtain ⟨m, hm⟩ := k0; exact DataW.trod_lt m _ _ _ hm
  obtain ⟨z0, q0, n0, c0, g0, q0b, n0b, c0b, g0b, q0c, n0c, c0c, g0c, o0, k0k, rfl, w0, u0, s0, s0b, s0c, y0, y0b, y0c⟩ := open_asked2 (hval 0 30 v0 rfl rfl) h0 hsz (j := 0) (by rw [Tryd.params5]; rfl) rfl
  have k1 := h1
  have lt1 : ∀ x ∈ p1, x.block < W.heap.size := by obtain ⟨m, hm⟩ := k1; exact DataW.trod_lt m _ _ _ hm
  obtain ⟨z1, q1, n1, c1, g1, q1b, n1b, c1b, g1b, q1c, n1c, c1c, g1c, o1, k1k, rfl, w1, u1, s1, s1b, s1c, y1, y1b, y1c⟩ := open_asked2 (hval 1 30 v1 rfl rfl) h1 hsz (j := 1) (by rw [Tryd.params5]; rfl) rfl
  clear hA0 hval0
  refine (walk chapSpec hT z0 q0 n0 c0 g0 q0b n0b c0b g0b q0c n0c c0c g0c o0 k0k s0 s0b y0 y0b z1 q1 n1 c1 g1 q1b n1b c1b g1b q1c n1c c1c g1c o1 k1k s1 s1b y1 y1b).mono fun e W' ⟨he, bel⟩ => ?_
  subst he
  exact ⟨_, rfl, _, _, _, [], _, [], hW', trodAll_mk1 (shut_bool Tryd.underlying4 _), (trodAll_cons_mk (Below.trod laidOut (by kernel_rfl) (of_decide_eq_true (by kernel_rfl)) k0 bel lt0) (trodAll_cons_mk (Below.trod laidOut (by kernel_rfl) (of_decide_eq_true (by kernel_rfl)) k1 bel lt1) trodAll_mk0)), rfl, bel.frame _, fun h => by cases h⟩

theorem over : Rows.chapBoundRow.holds Tryd.pinned (OpenSpec.ofChange Rows.chapBoundSpec) :=
  OpenClaim.holds_of_wide 5 Tryd.f5 rfl rfl rfl rfl rfl rfl rfl ⟨rfl, rfl, rfl, rfl, rfl⟩ rfl rfl rfl rfl rfl (by kernel_rfl) Tryd.func5 (by kernel_rfl)
    (of_decide_eq_true (by kernel_rfl)) (by unfold Func.isWrapper; first | (rw [if_pos (by decide +kernel)]; kernel_rfl) | (rw [if_neg (by decide +kernel)]; exact ⟨rfl, rfl⟩))
    (fun os started H enc _ => lifted os started H enc)

set_option maxRecDepth 100000 in
theorem proved : Rows.ChapBoundCardSaid :=
  Claim7.holds_tied_plain_at .later [] [.data] true (true, "fe2b54f320b46724d36697ff86eea2ee1142ca5255bc475a87788847d3b0ab21") false
    over (fun _ h => by cases h) (by kernel_rfl) (fun _ h => by cases h) chapBound_row_tie rfl ⟨rfl, rfl⟩ (by kernel_rfl) rfl
    (fun f fn hf hfn => by
      obtain rfl : f = 5 := Option.some.inj ((show Tryd.prog.funcNamed "citadel/citadellaw16.ChapBound" = some 5 by kernel_rfl).symm.trans hf) |>.symm
      obtain rfl : fn = Tryd.f5 := (Option.some.inj (Tryd.func5.symm.trans hfn)).symm
      exact ⟨by kernel_rfl, fun j t ht => by
        rw [Tryd.params5] at ht
        rcases j with _ | _ | j
        · obtain rfl : t = 30 := by simpa using ht.symm
          exact (show Tryd.prog.wantsStandIn 30 = false by kernel_rfl)
        · obtain rfl : t = 30 := by simpa using ht.symm
          exact (show Tryd.prog.wantsStandIn 30 = false by kernel_rfl)
        · simp at ht⟩)
    (by kernel_rfl)
end chapBound
end Go.Proofs.YtccpecajbfpjdaaDoor

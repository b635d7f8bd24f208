/- The contracts of citadelref08's Row and of the document's own Encode. Conditions: the Data lies in memory. -/
import Derived.Test.YtebbnkkhabehmaaPdSp
namespace Go.Proofs.Ytebbnkkhabehmaa
open Go.ChangeShapes Go.WideShapes Go.ChangeAt Go.RowKit
set_option linter.unusedVariables false
set_option linter.unusedSimpArgs false
section
variable {ops : Array Oper} {rest : List Oper} {o : Oper} {a : Act} {w : World} {Q : Exit → Act → World → Prop}
theorem wpList_bytes1 (hgd : o.guard = none) (u : Operand) (ho : o.op = .buildSlice 22 1 #[(0, u)]) (x : Int) (hx : a.eval u = .int .u8 x)
    (h : wpList Try.prog ops Q rest (a.put o.dst (.slice (some ⟨w.heap.size, 0, none⟩) 1 1)) (w.alloc (.cells (cellsOf .u8 [x]) 5))) : wpList Try.prog ops Q (o :: rest) a w :=
  wpList_plain hgd fun K hK => by
    have e : (Instr.buildSlice 22 1 #[(0, .int .u8 x)]).run Try.prog w = .ok (.slice (some ⟨w.heap.size, 0, none⟩) 1 1) (w.alloc (.cells (cellsOf .u8 [x]) 5)) := by simp [go_sem, cellsOf]
    unfold Oper.wp execOp
    simp only [ho]
    simp [hx, e]
    exact hK _ _ h
theorem wpList_bytes2 (hgd : o.guard = none) (u v : Operand) (ho : o.op = .buildSlice 22 2 #[(0, u), (1, v)]) (x y : Int) (hx : a.eval u = .int .u8 x) (hy : a.eval v = .int .u8 y)
    (h : wpList Try.prog ops Q rest (a.put o.dst (.slice (some ⟨w.heap.size, 0, none⟩) 2 2)) (w.alloc (.cells (cellsOf .u8 [x, y]) 5))) : wpList Try.prog ops Q (o :: rest) a w :=
  wpList_plain hgd fun K hK => by
    have e : (Instr.buildSlice 22 2 #[(0, .int .u8 x), (1, .int .u8 y)]).run Try.prog w = .ok (.slice (some ⟨w.heap.size, 0, none⟩) 2 2) (w.alloc (.cells (cellsOf .u8 [x, y]) 5)) := by simp [go_sem, cellsOf]
    unfold Oper.wp execOp
    simp only [ho]
    simp [hx, hy, e]
    exact hK _ _ h
end
theorem OwnS.later {base top k : Nat} {v : Value} {F : Nat → Nat} {w w' : World} (h : OwnS 5 1 w base top v k F) (ht : top ≤ w.heap.size) (hb : Below w.heap.size w w') : OwnS 5 1 w' base top v k F := h.same (fun B _ hB => hb.block B (by omega))
theorem OwnS.two (w : World) (F : Nat → Nat) (base x y : Nat) (hb : base ≤ w.heap.size) (h0 : F 0 = x) (h1 : F 1 = y) : OwnS 5 1 (w.alloc (.cells (cellsOf .u8 [(x : Int), (y : Int)]) 5)) base (w.heap.size + 1) (.slice (some ⟨w.heap.size, 0, none⟩) 2 2) 2 F :=
  .inr ⟨w.heap.size, 2, cellsOf .u8 [(x : Int), (y : Int)], rfl, hb, Nat.lt_succ_self _, heap_alloc_new w _, Nat.le_refl _, by simp [maxLen], rfl, by simp [cellsOf, bytesList, List.range_succ, h0, h1]⟩
theorem lit_bytes (w : World) (b : Nat) : BytesAt (w.alloc (.cells (cellsOf .u8 [(b : Int)]) 5)) (some ⟨w.heap.size, 0, none⟩) 1 (fun _ => b) := .inr ⟨w.heap.size, 0, rfl, by rw [World.size_alloc]; exact Nat.lt_succ_self _, fun j hj => by
  obtain rfl : j = 0 := by omega
  exact cell_of_one (heap_alloc_new w _)⟩
def rowT (d : Nat) (g : Nat → Nat) : Nat → Nat := fun j => if j < 2 then numF 2 (d : Int) j else g (j - 2)
theorem num2_0 (d : Nat) : (d : Int) / 256 % 256 = (numF 2 (d : Int) 0 : Nat) := by
  unfold numF; rw [← dig_int, show 2 - 1 - 0 = 1 from rfl, Int.pow_one]
theorem num2_1 (d : Nat) : (d : Int) % 256 = (numF 2 (d : Int) 1 : Nat) := by
  unfold numF; rw [← dig_int, show 2 - 1 - 1 = 0 from rfl, Int.pow_zero, Int.ediv_one]
theorem append_tail {n m : Nat} {T f : Nat → Nat} (h : ∀ j, j < m → f j = T (n + j)) : ∀ j, j < m → f j = T (n + j) := h
attribute [local irreducible] numF mk zeroK rowT frT
attribute [local go_sem] Oper.semAt_some
set_option maxRecDepth 100000 in
set_option maxHeartbeats 1000000 in
theorem refRow_any {w : World} {p : Option Addr} {d cd : Nat} {g : Nat → Nat} (hd : d ≤ 65535) (hp : BytesAt w p d g) :
    Calls Try.prog 26 #[.slice p d cd] w fun e w' => ∃ q c, e = .returned (.slice q (2 + d) c) ∧ BytesAt w' q (2 + d) (rowT d g) ∧ Below w.heap.size w w' := by
  have HP := Lib.hid (fun (W : World) (hb : Below w.heap.size w W) => hp.below hb)
  have HD := Lib.hid hd
  have q0 : IntKind.i64.wrap ((d : Int) / 256) = (d : Int) / 256 := IntWalk.i64_in _ (by omega)
  have q1 : IntKind.i64.wrap ((d : Int) % 256) = (d : Int) % 256 := IntWalk.i64_in _ (by omega)
  have q2 : (d : Int).tdiv 256 = (d : Int) / 256 := Int.tdiv_eq_ediv_of_nonneg (by omega)
  have q3 : (d : Int).tmod 256 = (d : Int) % 256 := Int.tmod_eq_emod_of_nonneg (by omega)
  have N0 := Lib.hid (num2_0 d)
  have N1 := Lib.hid (num2_1 d)
  have T0 := Lib.hid (show rowT d g 0 = numF 2 (d : Int) 0 by unfold rowT; rfl)
  have T1 := Lib.hid (show rowT d g 1 = numF 2 (d : Int) 1 by unfold rowT; rfl)
  have T2 := Lib.hid (show ∀ j, j < d → g j = rowT d g (2 + j) from fun j hj => by unfold rowT; rw [if_neg (by omega)]; congr 1; omega)
  clear hp hd
  go_enter Try.func26, Try.ntmps26
  go_wp2_with (first
  | (with_reducible show wpList _ _ _ (⟨some 11, Op.buildSlice 22 _ _, _, _, _, _⟩ :: _) _ _
     refine wpList_bytes2 rfl _ _ rfl ((d : Int) / 256 % 256) ((d : Int) % 256) rfl rfl ?_
     have O2 := Lib.hid (OwnS.two w (rowT d g) w.heap.size _ _ (Nat.le_refl _) T0.out T1.out)
     rw [N0.out, N1.out]
     have L2 := Lib.hid (Below.alloc (Below.refl w.heap.size w) (Nat.le_refl _) (.cells (cellsOf .u8 [((numF 2 (d : Int) 0 : Nat) : Int), ((numF 2 (d : Int) 1 : Nat) : Int)]) 5))
     generalize w.alloc (.cells (cellsOf .u8 [((numF 2 (d : Int) 0 : Nat) : Int), ((numF 2 (d : Int) 1 : Nat) : Int)]) 5) = w2 at *)
  | (refine wpList_append_own_bytes rfl _ _ rfl w.heap.size (w.heap.size + 1) 2 _ (rowT d g) g p d cd rfl rfl O2.out (HP.out _ L2.out) T2.out (by have := HD.out; omega) L2.out.size ?_
     intro v3 w3 o3 l3
     obtain ⟨p3, c3, rfl, -, -, b3, -⟩ := o3.bytes (Nat.le_refl _)
     have B3 := Lib.hid b3
     have L3 := Lib.hid (L2.out.trans l3)
     clear o3 l3 b3 O2 L2))
  go_ret
  exact ⟨p3, c3, rfl, B3.out, L3.out⟩
set_option maxRecDepth 100000 in
set_option maxHeartbeats 1000000 in
theorem refEncode_no0 {w : World} (k n c : Int) (p : Option Addr) (d cd : Nat)  (h0 : k < 1) : Calls Try.prog 11 #[.agg (frA k n c p d cd)] w fun e w' => e = .returned (.tuple #[.slice none 0 0, .bool false]) ∧ Below w.heap.size w w' := by
  have f0 : decide ((k : Int) < 1) = true := by simp; omega
  clear h0
  go_enter Try.func11, Try.ntmps11
  go_wp2_with (first
  | (with_reducible show wpList _ _ _ (⟨some 1, Op.box 24 _, _, _, _, none⟩ :: _) _ _
     refine wpList_boxA_of rfl _ rfl (frA k n c p d cd) rfl ?_
     intro w1 x1 l1 s1
     have P1 := Lib.hid l1
     obtain ⟨d0, d1, d2, d3⟩ := boxFr x1
     clear x1 l1 s1))
  go_ret2
  exact ⟨rfl, P1.out⟩
set_option maxRecDepth 100000 in
set_option maxHeartbeats 1000000 in
theorem refEncode_no1 {w : World} (k n c : Int) (p : Option Addr) (d cd : Nat) (h0 : ¬ k < 1) (h1 : 8 < k) : Calls Try.prog 11 #[.agg (frA k n c p d cd)] w fun e w' => e = .returned (.tuple #[.slice none 0 0, .bool false]) ∧ Below w.heap.size w w' := by
  have f0 : decide ((k : Int) < 1) = false := by simp; omega
  have f1 : decide ((8 : Int) < k) = true := by simp; omega
  clear h0 h1
  go_enter Try.func11, Try.ntmps11
  go_wp2_with (first
  | (with_reducible show wpList _ _ _ (⟨some 1, Op.box 24 _, _, _, _, none⟩ :: _) _ _
     refine wpList_boxA_of rfl _ rfl (frA k n c p d cd) rfl ?_
     intro w1 x1 l1 s1
     have P1 := Lib.hid l1
     obtain ⟨d0, d1, d2, d3⟩ := boxFr x1
     clear x1 l1 s1))
  go_ret2
  exact ⟨rfl, P1.out⟩
set_option maxRecDepth 100000 in
set_option maxHeartbeats 1000000 in
theorem refEncode_no2 {w : World} (k n c : Int) (p : Option Addr) (d cd : Nat) (h0 : ¬ k < 1) (h1 : ¬ 8 < k) (h2 : n < 0) : Calls Try.prog 11 #[.agg (frA k n c p d cd)] w fun e w' => e = .returned (.tuple #[.slice none 0 0, .bool false]) ∧ Below w.heap.size w w' := by
  have f0 : decide ((k : Int) < 1) = false := by simp; omega
  have f1 : decide ((8 : Int) < k) = false := by simp; omega
  have f2 : decide ((n : Int) < 0) = true := by simp; omega
  clear h0 h1 h2
  go_enter Try.func11, Try.ntmps11
  go_wp2_with (first
  | (with_reducible show wpList _ _ _ (⟨some 1, Op.box 24 _, _, _, _, none⟩ :: _) _ _
     refine wpList_boxA_of rfl _ rfl (frA k n c p d cd) rfl ?_
     intro w1 x1 l1 s1
     have P1 := Lib.hid l1
     obtain ⟨d0, d1, d2, d3⟩ := boxFr x1
     clear x1 l1 s1))
  go_ret2
  exact ⟨rfl, P1.out⟩
set_option maxRecDepth 100000 in
set_option maxHeartbeats 1000000 in
theorem refEncode_no3 {w : World} (k n c : Int) (p : Option Addr) (d cd : Nat) (h0 : ¬ k < 1) (h1 : ¬ 8 < k) (h2 : ¬ n < 0) (h3 : 4294967295 < n) : Calls Try.prog 11 #[.agg (frA k n c p d cd)] w fun e w' => e = .returned (.tuple #[.slice none 0 0, .bool false]) ∧ Below w.heap.size w w' := by
  have f0 : decide ((k : Int) < 1) = false := by simp; omega
  have f1 : decide ((8 : Int) < k) = false := by simp; omega
  have f2 : decide ((n : Int) < 0) = false := by simp; omega
  have f3 : decide ((4294967295 : Int) < n) = true := by simp; omega
  clear h0 h1 h2 h3
  go_enter Try.func11, Try.ntmps11
  go_wp2_with (first
  | (with_reducible show wpList _ _ _ (⟨some 1, Op.box 24 _, _, _, _, none⟩ :: _) _ _
     refine wpList_boxA_of rfl _ rfl (frA k n c p d cd) rfl ?_
     intro w1 x1 l1 s1
     have P1 := Lib.hid l1
     obtain ⟨d0, d1, d2, d3⟩ := boxFr x1
     clear x1 l1 s1))
  go_ret2
  exact ⟨rfl, P1.out⟩
set_option maxRecDepth 100000 in
set_option maxHeartbeats 1000000 in
theorem refEncode_no4 {w : World} (k n c : Int) (p : Option Addr) (d cd : Nat) (h0 : ¬ k < 1) (h1 : ¬ 8 < k) (h2 : ¬ n < 0) (h3 : ¬ 4294967295 < n) (h4 : c < 0) : Calls Try.prog 11 #[.agg (frA k n c p d cd)] w fun e w' => e = .returned (.tuple #[.slice none 0 0, .bool false]) ∧ Below w.heap.size w w' := by
  have f0 : decide ((k : Int) < 1) = false := by simp; omega
  have f1 : decide ((8 : Int) < k) = false := by simp; omega
  have f2 : decide ((n : Int) < 0) = false := by simp; omega
  have f3 : decide ((4294967295 : Int) < n) = false := by simp; omega
  have f4 : decide ((c : Int) < 0) = true := by simp; omega
  clear h0 h1 h2 h3 h4
  go_enter Try.func11, Try.ntmps11
  go_wp2_with (first
  | (with_reducible show wpList _ _ _ (⟨some 1, Op.box 24 _, _, _, _, none⟩ :: _) _ _
     refine wpList_boxA_of rfl _ rfl (frA k n c p d cd) rfl ?_
     intro w1 x1 l1 s1
     have P1 := Lib.hid l1
     obtain ⟨d0, d1, d2, d3⟩ := boxFr x1
     clear x1 l1 s1))
  go_ret2
  exact ⟨rfl, P1.out⟩
set_option maxRecDepth 100000 in
set_option maxHeartbeats 1000000 in
theorem refEncode_no5 {w : World} (k n c : Int) (p : Option Addr) (d cd : Nat) (h0 : ¬ k < 1) (h1 : ¬ 8 < k) (h2 : ¬ n < 0) (h3 : ¬ 4294967295 < n) (h4 : ¬ c < 0) (h5 : 255 < c) : Calls Try.prog 11 #[.agg (frA k n c p d cd)] w fun e w' => e = .returned (.tuple #[.slice none 0 0, .bool false]) ∧ Below w.heap.size w w' := by
  have f0 : decide ((k : Int) < 1) = false := by simp; omega
  have f1 : decide ((8 : Int) < k) = false := by simp; omega
  have f2 : decide ((n : Int) < 0) = false := by simp; omega
  have f3 : decide ((4294967295 : Int) < n) = false := by simp; omega
  have f4 : decide ((c : Int) < 0) = false := by simp; omega
  have f5 : decide ((255 : Int) < c) = true := by simp; omega
  clear h0 h1 h2 h3 h4 h5
  go_enter Try.func11, Try.ntmps11
  go_wp2_with (first
  | (with_reducible show wpList _ _ _ (⟨some 1, Op.box 24 _, _, _, _, none⟩ :: _) _ _
     refine wpList_boxA_of rfl _ rfl (frA k n c p d cd) rfl ?_
     intro w1 x1 l1 s1
     have P1 := Lib.hid l1
     obtain ⟨d0, d1, d2, d3⟩ := boxFr x1
     clear x1 l1 s1))
  go_ret2
  exact ⟨rfl, P1.out⟩
set_option maxRecDepth 100000 in
set_option maxHeartbeats 1000000 in
theorem refEncode_no6 {w : World} (k n c : Int) (p : Option Addr) (d cd : Nat) (h0 : ¬ k < 1) (h1 : ¬ 8 < k) (h2 : ¬ n < 0) (h3 : ¬ 4294967295 < n) (h4 : ¬ c < 0) (h5 : ¬ 255 < c) (h6 : 4096 < d) : Calls Try.prog 11 #[.agg (frA k n c p d cd)] w fun e w' => e = .returned (.tuple #[.slice none 0 0, .bool false]) ∧ Below w.heap.size w w' := by
  have f0 : decide ((k : Int) < 1) = false := by simp; omega
  have f1 : decide ((8 : Int) < k) = false := by simp; omega
  have f2 : decide ((n : Int) < 0) = false := by simp; omega
  have f3 : decide ((4294967295 : Int) < n) = false := by simp; omega
  have f4 : decide ((c : Int) < 0) = false := by simp; omega
  have f5 : decide ((255 : Int) < c) = false := by simp; omega
  have f6 : decide ((4096 : Int) < (d : Int)) = true := by simp; omega
  have f7 : decide (4096 < d) = true := by simp; omega
  clear h0 h1 h2 h3 h4 h5 h6
  go_enter Try.func11, Try.ntmps11
  go_wp2_with (first
  | (with_reducible show wpList _ _ _ (⟨some 1, Op.box 24 _, _, _, _, none⟩ :: _) _ _
     refine wpList_boxA_of rfl _ rfl (frA k n c p d cd) rfl ?_
     intro w1 x1 l1 s1
     have P1 := Lib.hid l1
     obtain ⟨d0, d1, d2, d3⟩ := boxFr x1
     clear x1 l1 s1))
  go_ret2
  exact ⟨rfl, P1.out⟩
theorem refEncode_no {w : World} (k n c : Int) (p : Option Addr) (d cd : Nat) (h : ¬ inF k n c d) : Calls Try.prog 11 #[.agg (frA k n c p d cd)] w fun e w' => e = .returned (.tuple #[.slice none 0 0, .bool false]) ∧ Below w.heap.size w w' := by
  unfold inF at h
  by_cases h0 : k < 1
  · exact refEncode_no0 k n c p d cd h0
  by_cases h1 : 8 < k
  · exact refEncode_no1 k n c p d cd h0 h1
  by_cases h2 : n < 0
  · exact refEncode_no2 k n c p d cd h0 h1 h2
  by_cases h3 : 4294967295 < n
  · exact refEncode_no3 k n c p d cd h0 h1 h2 h3
  by_cases h4 : c < 0
  · exact refEncode_no4 k n c p d cd h0 h1 h2 h3 h4
  by_cases h5 : 255 < c
  · exact refEncode_no5 k n c p d cd h0 h1 h2 h3 h4 h5
  by_cases h6 : 4096 < d
  · exact refEncode_no6 k n c p d cd h0 h1 h2 h3 h4 h5 h6
  exact absurd ⟨⟨by omega, by omega⟩, ⟨by omega, by omega⟩, ⟨by omega, by omega⟩, by omega⟩ h
set_option maxRecDepth 100000 in
set_option maxHeartbeats 4000000 in
theorem refEncode_ok {w : World} (k n c : Int) {p : Option Addr} {d cd : Nat} {g : Nat → Nat} (hi : inF k n c d) (hp : BytesAt w p d g) :
    Calls Try.prog 11 #[.agg (frA k n c p d cd)] w fun e w' => ∃ q cq, e = .returned (.tuple #[.slice q (8 + d) cq, .bool true]) ∧ BytesAt w' q (8 + d) (frT k n c d g) ∧ Below w.heap.size w w' := by
  obtain ⟨⟨k1, k2⟩, ⟨n1, n2⟩, ⟨c1, c2⟩, hd⟩ := hi
  have f0 : decide ((k : Int) < 1) = false := by simp; omega
  have f1 : decide ((8 : Int) < k) = false := by simp; omega
  have f2 : decide ((n : Int) < 0) = false := by simp; omega
  have f3 : decide ((4294967295 : Int) < n) = false := by simp; omega
  have f4 : decide ((c : Int) < 0) = false := by simp; omega
  have f5 : decide ((255 : Int) < c) = false := by simp; omega
  have f6 : decide ((4096 : Int) < (d : Int)) = false := by simp; omega
  have f7 : decide (4096 < d) = false := by simp; omega
  have HP := Lib.hid (fun (W : World) (hb : Below w.heap.size w W) => hp.below hb)
  have HD := Lib.hid hd
  have NB := Lib.hid (fun (W : World) => refNumber_ok 4 n (by unfold IsSize; omega) (.inr ⟨n1, by rw [show (256 : Int) ^ 4 = 4294967296 by decide]; omega⟩) W)
  have RR := Lib.hid (fun (W : World) (hb : Below w.heap.size w W) => refRow_any (cd := cd) (by omega) (hp.below hb))
  have W0 := Lib.hid (show IntKind.u8.wrap k = ((frT k n c d g 0 : Nat) : Int) by rw [frT_0, IntKind.wrap_u8']; omega)
  have W5 := Lib.hid (show IntKind.u8.wrap c = ((frT k n c d g 5 : Nat) : Int) by rw [frT_c, IntKind.wrap_u8']; omega)
  have T1 := Lib.hid (show ∀ j, j < 4 → numF 4 n j = frT k n c d g (1 + j) from fun j hj => (frT_n _ _ _ _ _ hj).symm)
  have T2 := Lib.hid (show ∀ j, j < 1 → frT k n c d g 5 = frT k n c d g (5 + j) from fun j hj => by (obtain rfl : j = 0 := by omega); rfl)
  have T3 := Lib.hid (show ∀ j, j < 2 + d → rowT d g j = frT k n c d g (6 + j) from fun j hj => by
    unfold rowT
    by_cases h : j < 2
    · rw [if_pos h, frT_d _ _ _ _ _ h]
    · rw [if_neg h, show 6 + j = 8 + (j - 2) by omega, frT_g])
  clear hp hd k1 k2 n1 n2 c1 c2
  generalize frT k n c d g = T at *
  go_enter Try.func11, Try.ntmps11
  go_wp2_with (first
  | (with_reducible show wpList _ _ _ (⟨some 1, Op.box 24 _, _, _, _, none⟩ :: _) _ _
     refine wpList_boxA_of rfl _ rfl (frA k n c p d cd) rfl ?_
     intro w1 x1 l1 s1
     have P1 := Lib.hid (show LwB w [bxO w.heap.size 24 (frA k n c p d cd)] w1 from (LwB.none w).add l1 x1 (Nat.le_refl _))
     obtain ⟨d0, d1, d2, d3⟩ := boxFr x1
     clear x1 l1 s1)
  | (go_at_call 25
     refine (NB.out w1).mono ?_; rintro e w2 ⟨p2, c2, rfl, b2, l2⟩
     have B2 := Lib.hid b2
     have P2 := Lib.hid (P1.out.mono l2)
     clear d0 d1 d2 d3
     obtain ⟨d0, d1, d2, d3⟩ := boxFr (P2.out.bx (i := 0) rfl)
     clear b2 l2 P1 NB)
  | (with_reducible show wpList _ _ _ (⟨some 50, Op.buildSlice 22 _ _, _, _, _, _⟩ :: _) _ _
     refine wpList_bytes1 rfl _ rfl (IntKind.u8.wrap k) rfl ?_
     rw [W0.out]
     have O3 := Lib.hid (OwnS.one w2 T w2.heap.size _ (Nat.le_refl _) rfl)
     have L3 := Lib.hid (Below.alloc (Below.refl w2.heap.size w2) (Nat.le_refl _) (.cells (cellsOf .u8 [((T 0 : Nat) : Int)]) 5))
     have B3 := Lib.hid (B2.out.below L3.out)
     generalize w2.alloc (.cells (cellsOf .u8 [((T 0 : Nat) : Int)]) 5) = w3 at *
     clear B2)
  | (refine wpList_append_own_bytes rfl _ _ rfl w2.heap.size (w2.heap.size + 1) 1 _ T (numF 4 n) p2 4 c2 rfl rfl O3.out B3.out T1.out (by omega) L3.out.size ?_
     intro v4 w4 o4 l4
     replace o4 : OwnS 5 1 w4 w2.heap.size w4.heap.size v4 5 T := o4
     obtain ⟨p4, c4, rfl, -, -, -, -⟩ := o4.bytes (Nat.le_refl _)
     have O4 := Lib.hid o4
     have L4 := Lib.hid (L3.out.trans l4)
     clear d0 d1 d2 d3
     obtain ⟨d0, d1, d2, d3⟩ := boxFr ((P2.out.mono L4.out).bx (i := 0) rfl)
     clear o4 l4 O3 L3 B3)
  | (with_reducible show wpList _ _ _ (⟨some 57, Op.buildSlice 22 _ _, _, _, _, _⟩ :: _) _ _
     refine wpList_bytes1 rfl _ rfl (IntKind.u8.wrap c) rfl ?_
     rw [W5.out]
     have l5 := Below.alloc (Below.refl w4.heap.size w4) (Nat.le_refl _) (.cells (cellsOf .u8 [((T 5 : Nat) : Int)]) 5)
     have O5 := Lib.hid (O4.out.later (Nat.le_refl _) l5)
     have L5 := Lib.hid (L4.out.trans (l5.mono L4.out.size))
     have B5 := Lib.hid (lit_bytes w4 (T 5))
     generalize w4.alloc (.cells (cellsOf .u8 [((T 5 : Nat) : Int)]) 5) = w5 at *
     clear l5 O4 L4)
  | (refine wpList_append_own_bytes rfl _ _ rfl w2.heap.size w4.heap.size 5 (.slice p4 5 c4) T (fun _ => T 5) (some ⟨w4.heap.size, 0, none⟩) 1 1 rfl rfl O5.out B5.out T2.out (by omega) L5.out.size ?_
     intro v6 w6 o6 l6
     replace o6 : OwnS 5 1 w6 w2.heap.size w6.heap.size v6 6 T := o6
     obtain ⟨p6, c6, rfl, -, -, -, -⟩ := o6.bytes (Nat.le_refl _)
     have O6 := Lib.hid o6
     have L6 := Lib.hid (L5.out.trans l6)
     clear d0 d1 d2 d3
     obtain ⟨d0, d1, d2, d3⟩ := boxFr ((P2.out.mono L6.out).bx (i := 0) rfl)
     clear o6 l6 O5 L5 B5)
  | (go_at_call 26
     refine (RR.out w6 (P2.out.mono L6.out).low).mono ?_; rintro e w7 ⟨p7, c7, rfl, b7, l7⟩
     have B7 := Lib.hid b7
     have O7 := Lib.hid (O6.out.later (Nat.le_refl _) l7)
     have L7 := Lib.hid (L6.out.trans (l7.mono L6.out.size))
     clear b7 l7 O6 L6 RR)
  | (refine wpList_append_own_bytes rfl _ _ rfl w2.heap.size w6.heap.size 6 (.slice p6 6 c6) T (rowT d g) p7 (2 + d) c7 rfl rfl O7.out B7.out T3.out (by have := HD.out; omega) L7.out.size ?_
     intro v8 w8 o8 l8
     rw [show 6 + (2 + d) = 8 + d by omega] at o8
     obtain ⟨p8, c8, rfl, -, -, b8, -⟩ := o8.bytes (Nat.le_refl _)
     have B8 := Lib.hid b8
     have L8 := Lib.hid (L7.out.trans l8)
     clear o8 l8 b8 O7 L7 B7))
  go_ret2
  exact ⟨p8, c8, rfl, B8.out, (P2.out.mono L8.out).low⟩
end Go.Proofs.Ytebbnkkhabehmaa

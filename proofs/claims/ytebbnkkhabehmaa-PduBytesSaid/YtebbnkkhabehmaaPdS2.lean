/- The program's inForm and Encode: three numbers put, then a row, as long as there is no error. Conditions: as each says. -/
import Derived.Test.YtebbnkkhabehmaaPdS1
import Derived.Test.YtebbnkkhabehmaaPdWd
namespace Go.Proofs.Ytebbnkkhabehmaa
open Go.ChangeShapes Go.WideShapes Go.ChangeAt Go.RowKit
set_option linter.unusedVariables false
set_option linter.unusedSimpArgs false
/-- A kind that is one, and no more data than may be. -/
def inK (k : Int) (d : Nat) : Prop := (1 ≤ k ∧ k ≤ 8) ∧ d ≤ 4096
instance (k : Int) (d : Nat) : Decidable (inK k d) := inferInstanceAs (Decidable (_ ∧ _))
theorem inF_K {k n c : Int} {d : Nat} : inF k n c d ↔ inK k d ∧ (0 ≤ n ∧ n ≤ 4294967295) ∧ (0 ≤ c ∧ c ≤ 255) := by unfold inF inK; omega
theorem put_step {T : Nat → Nat} {n0 s : Nat} {z : Int} (hs : IsSize s) (hz : fitsN s z) (hT : ∀ j, j < s → numF s z j = T (n0 + j)) (hn : n0 ≤ 100) (W : World) (p : Option Addr) (cap : Nat) (hp : BytesAt W p n0 T) :
    Calls Try.prog 23 #[.slice p n0 cap, .int .i64 s, .int .i64 z] W fun e W' => ∃ D, e = .returned (.tuple #[.slice (some ⟨D, 0, none⟩) (n0 + s) (n0 + s), .nilIface]) ∧ BytesAt W' (some ⟨D, 0, none⟩) (n0 + s) T ∧ Below W.heap.size W W' := by
  refine (Put_ok p n0 cap T s z hs hz (by omega) W hp).mono ?_
  rintro e W' ⟨rfl, b, l⟩
  refine ⟨_, rfl, bytes_congr (fun j hj => ?_) b.bytesAt, l⟩
  unfold cat
  by_cases h : j < n0
  · rw [if_pos h]
  · rw [if_neg h, hT _ (by omega)]; congr 1; omega
theorem row_step {T : Nat → Nat} {n0 m : Nat} {g : Nat → Nat} (h0 : ∀ j, j < 2 → numF 2 (m : Int) j = T (n0 + j)) (h1 : ∀ j, j < m → g j = T (n0 + 2 + j)) (hn : n0 ≤ 100) (hm : m ≤ 4096) (W : World) (p q : Option Addr) (cap mcap : Nat) (hmc : m ≤ mcap) (hp : BytesAt W p n0 T) (hq : BytesAt W q m g) :
    Calls Try.prog 24 #[.slice p n0 cap, .slice q m mcap] W fun e W' => ∃ D, ∃ F : Nat → Nat, e = .returned (.tuple #[.slice (some ⟨D, 0, none⟩) (n0 + 2 + m) (n0 + 2 + m), .nilIface]) ∧ BlkR W' D (n0 + 2 + m) F ∧ (∀ j, j < n0 + 2 + m → F j = T j) ∧ W.heap.size ≤ D ∧ Below W.heap.size W W' := by
  refine (Row_ok p n0 cap T q m mcap g (by omega) hmc (by omega) W hp hq).mono ?_
  rintro e W' ⟨rfl, b, l⟩
  rw [← Nat.add_assoc] at b
  rw [← Nat.add_assoc]
  refine ⟨_, _, rfl, ⟨_, Nat.le_refl _, b⟩, fun j hj => ?_, Nat.le_refl _, l⟩
  unfold cat
  by_cases h : j < n0
  · rw [if_pos h]
  · rw [if_neg h]
    by_cases h2 : j - n0 < 2
    · rw [if_pos h2, h0 _ h2]; congr 1; omega
    · rw [if_neg h2, h1 _ (by omega)]; congr 1; omega
theorem num1 {z : Int} (h : 0 ≤ z ∧ z ≤ 255) : numF 1 z 0 = z.toNat := by
  have h1 := valN_lt (g := numF 1 z) 1 (fun i hi => numF_lt 1 z i)
  have h2 := val_back 1 z
  have h3 : valN 1 (numF 1 z) = numF 1 z 0 := by unfold valN; simp [valN]
  rw [h3] at h2
  have : z % 256 ^ 1 = z := by rw [Int.pow_one]; omega
  omega
theorem put_no {s : Nat} {z : Int} (hs : IsSize s) (hz : ¬ fitsN s z) (n0 : Nat) (W : World) (p : Option Addr) (cap : Nat) :
    Calls Try.prog 23 #[.slice p n0 cap, .int .i64 s, .int .i64 z] W fun e W' => e = .returned (.tuple #[.slice none 0 0, .iface 35 (.int .i64 1)]) ∧ W = W' := Put_range p n0 cap s z hs hz W
attribute [local go_sem] Oper.semAt_some
attribute [local irreducible] frA frT mk zeroK stN inF numF inK
set_option maxRecDepth 100000 in
set_option maxHeartbeats 4000000 in
theorem inForm_0 {w : World} (k n c : Int) (p : Option Addr) (d cd : Nat) (h0 : ¬ ((1 : Int) ≤ k)) : Calls Try.prog 22 #[.agg (frA k n c p d cd)] w fun e w' => e = .returned (.bool false) ∧ Below w.heap.size w w' := by
  have f0 : decide ((1 : Int) ≤ k) = false := by simp; omega
  clear h0
  go_enter Try.func22, Try.ntmps22
  go_wp2_with (first
  | (with_reducible show wpList _ _ _ (⟨some 1, Op.box 24 _, _, _, _, none⟩ :: _) _ _
     refine wpList_boxA_of rfl _ rfl (frA k n c p d cd) rfl ?_
     intro w1 x1 l1 s1
     have P1 := Lib.hid (show LwB w [bxO w.heap.size 24 (frA k n c p d cd)] w1 from (LwB.none w).add l1 x1 (Nat.le_refl _))
     obtain ⟨d0, d1, d2, d3⟩ := boxFr (P1.out.bx (i := 0) rfl)
     clear x1 l1 s1))
  go_ret
  exact ⟨rfl, P1.out.low⟩
set_option maxRecDepth 100000 in
set_option maxHeartbeats 4000000 in
theorem inForm_1 {w : World} (k n c : Int) (p : Option Addr) (d cd : Nat) (h0 : (1 : Int) ≤ k) (h1 : ¬ (k ≤ 8)) : Calls Try.prog 22 #[.agg (frA k n c p d cd)] w fun e w' => e = .returned (.bool false) ∧ Below w.heap.size w w' := by
  have f0 : decide ((1 : Int) ≤ k) = true := by simp; omega
  have f1 : decide (k ≤ 8) = false := by simp; omega
  clear h0 h1
  go_enter Try.func22, Try.ntmps22
  go_wp2_with (first
  | (with_reducible show wpList _ _ _ (⟨some 1, Op.box 24 _, _, _, _, none⟩ :: _) _ _
     refine wpList_boxA_of rfl _ rfl (frA k n c p d cd) rfl ?_
     intro w1 x1 l1 s1
     have P1 := Lib.hid (show LwB w [bxO w.heap.size 24 (frA k n c p d cd)] w1 from (LwB.none w).add l1 x1 (Nat.le_refl _))
     obtain ⟨d0, d1, d2, d3⟩ := boxFr (P1.out.bx (i := 0) rfl)
     clear x1 l1 s1))
  go_ret
  exact ⟨rfl, P1.out.low⟩
set_option maxRecDepth 100000 in
set_option maxHeartbeats 4000000 in
theorem inForm_2 {w : World} (k n c : Int) (p : Option Addr) (d cd : Nat) (h0 : (1 : Int) ≤ k) (h1 : k ≤ 8) (h2 : ¬ ((d : Int) ≤ 4096)) : Calls Try.prog 22 #[.agg (frA k n c p d cd)] w fun e w' => e = .returned (.bool false) ∧ Below w.heap.size w w' := by
  have f0 : decide ((1 : Int) ≤ k) = true := by simp; omega
  have f1 : decide (k ≤ 8) = true := by simp; omega
  have f2 : decide ((d : Int) ≤ 4096) = false := by simp; omega
  have g2 : decide (d ≤ 4096) = false := by simp; omega
  clear h0 h1 h2
  go_enter Try.func22, Try.ntmps22
  go_wp2_with (first
  | (with_reducible show wpList _ _ _ (⟨some 1, Op.box 24 _, _, _, _, none⟩ :: _) _ _
     refine wpList_boxA_of rfl _ rfl (frA k n c p d cd) rfl ?_
     intro w1 x1 l1 s1
     have P1 := Lib.hid (show LwB w [bxO w.heap.size 24 (frA k n c p d cd)] w1 from (LwB.none w).add l1 x1 (Nat.le_refl _))
     obtain ⟨d0, d1, d2, d3⟩ := boxFr (P1.out.bx (i := 0) rfl)
     clear x1 l1 s1))
  go_ret
  exact ⟨rfl, P1.out.low⟩
set_option maxRecDepth 100000 in
set_option maxHeartbeats 4000000 in
theorem inForm_3 {w : World} (k n c : Int) (p : Option Addr) (d cd : Nat) (h0 : (1 : Int) ≤ k) (h1 : k ≤ 8) (h2 : (d : Int) ≤ 4096) : Calls Try.prog 22 #[.agg (frA k n c p d cd)] w fun e w' => e = .returned (.bool true) ∧ Below w.heap.size w w' := by
  have f0 : decide ((1 : Int) ≤ k) = true := by simp; omega
  have f1 : decide (k ≤ 8) = true := by simp; omega
  have f2 : decide ((d : Int) ≤ 4096) = true := by simp; omega
  have g2 : decide (d ≤ 4096) = true := by simp; omega
  clear h0 h1 h2
  go_enter Try.func22, Try.ntmps22
  go_wp2_with (first
  | (with_reducible show wpList _ _ _ (⟨some 1, Op.box 24 _, _, _, _, none⟩ :: _) _ _
     refine wpList_boxA_of rfl _ rfl (frA k n c p d cd) rfl ?_
     intro w1 x1 l1 s1
     have P1 := Lib.hid (show LwB w [bxO w.heap.size 24 (frA k n c p d cd)] w1 from (LwB.none w).add l1 x1 (Nat.le_refl _))
     obtain ⟨d0, d1, d2, d3⟩ := boxFr (P1.out.bx (i := 0) rfl)
     clear x1 l1 s1))
  go_ret
  exact ⟨rfl, P1.out.low⟩
theorem inForm_any {w : World} (k n c : Int) (p : Option Addr) (d cd : Nat) : Calls Try.prog 22 #[.agg (frA k n c p d cd)] w fun e w' => e = .returned (.bool (decide (inK k d))) ∧ Below w.heap.size w w' := by
  by_cases h0 : (1 : Int) ≤ k
  case neg =>
    rw [decide_eq_false (show ¬ inK k d from fun h => by unfold inK at h; omega)]
    exact inForm_0 k n c p d cd h0
  by_cases h1 : k ≤ 8
  case neg =>
    rw [decide_eq_false (show ¬ inK k d from fun h => by unfold inK at h; omega)]
    exact inForm_1 k n c p d cd h0 h1
  by_cases h2 : (d : Int) ≤ 4096
  case neg =>
    rw [decide_eq_false (show ¬ inK k d from fun h => by unfold inK at h; omega)]
    exact inForm_2 k n c p d cd h0 h1 h2
  rw [decide_eq_true (show inK k d by unfold inK; omega)]
  exact inForm_3 k n c p d cd h0 h1 h2
set_option maxRecDepth 100000 in
set_option maxHeartbeats 4000000 in
theorem Encode_no0 {w : World} (k n c : Int) (p : Option Addr) (d cd : Nat) (h : ¬ inK k d) : Calls Try.prog 8 #[.agg (frA k n c p d cd)] w fun e w' => e = .returned (.tuple #[.slice none 0 0, .iface 35 (.int .i64 10)]) ∧ Below w.heap.size w w' := by
  have IF := Lib.hid (fun (W : World) => inForm_any (w := W) k n c p d cd)
  rw [decide_eq_false h] at IF
  clear h
  go_enter Try.func8, Try.ntmps8
  go_wp2_with (first
  | (with_reducible show wpList _ _ _ (⟨some 1, Op.box 24 _, _, _, _, none⟩ :: _) _ _
     refine wpList_boxA_of rfl _ rfl (frA k n c p d cd) rfl ?_
     intro w1 x1 l1 s1
     have P1 := Lib.hid (show LwB w [bxO w.heap.size 24 (frA k n c p d cd)] w1 from (LwB.none w).add l1 x1 (Nat.le_refl _))
     obtain ⟨d0, d1, d2, d3⟩ := boxFr (P1.out.bx (i := 0) rfl)
     clear x1 l1 s1)
  | (with_reducible show wpList _ _ _ (⟨some 6, Op.load 24 _, _, _, _, _⟩ :: _) _ _
     refine wpList_boxA_loadw rowFr _ rfl rfl w.heap.size (frA k n c p d cd) (frA_size _ _ _ _ _ _) rfl (P1.out.bx (i := 0) rfl) ?_)
  | (go_at_call 22
     refine (IF.out _).mono ?_; rintro e w2 ⟨rfl, l2⟩
     have P2 := Lib.hid (P1.out.mono l2)
     clear l2 P1 IF d0 d1 d2 d3
     obtain ⟨d0, d1, d2, d3⟩ := boxFr (P2.out.bx (i := 0) rfl)))
  go_ret2
  exact ⟨rfl, P2.out.low⟩
set_option maxRecDepth 100000 in
set_option maxHeartbeats 4000000 in
theorem Encode_no1 {w : World} (k n c : Int) (p : Option Addr) (d cd : Nat) (h : inK k d) (hn : ¬ (0 ≤ n ∧ n ≤ 4294967295)) : Calls Try.prog 8 #[.agg (frA k n c p d cd)] w fun e w' => e = .returned (.tuple #[.slice none 0 0, .iface 35 (.int .i64 10)]) ∧ Below w.heap.size w w' := by
  have IF := Lib.hid (fun (W : World) => inForm_any (w := W) k n c p d cd)
  rw [decide_eq_true h] at IF
  obtain ⟨h1, h4⟩ : (1 ≤ k ∧ k ≤ 8) ∧ d ≤ 4096 := by unfold inK at h; exact h
  have A1 := Lib.hid (fun (W : World) => show Calls Try.prog 23 #[.slice none 0 0, .int .i64 1, .int .i64 k] W fun e W' => ∃ D, e = .returned (.tuple #[.slice (some ⟨D, 0, none⟩) 1 1, .nilIface]) ∧ BytesAt W' (some ⟨D, 0, none⟩) 1 (frT k n c d zeroK) ∧ Below W.heap.size W W' from
    put_step (T := frT k n c d zeroK) (n0 := 0) (s := 1) (z := k) (.inl rfl) (.inr ⟨by omega, by omega⟩) (fun j hj => (by rw [show j = 0 by omega, num1 ⟨by omega, by omega⟩, Nat.zero_add, frT_0])) (by omega) W none 0 (.inl rfl))
  have N2 := Lib.hid (fun (W : World) (q : Option Addr) => show Calls Try.prog 23 #[.slice q 1 1, .int .i64 4, .int .i64 n] W fun e W' => e = .returned (.tuple #[.slice none 0 0, .iface 35 (.int .i64 1)]) ∧ W = W' from put_no (s := 4) (.inr (.inr (.inl rfl))) (fun hf => by unfold fitsN at hf; omega) 1 W q 1)
  clear h hn h1 h4
  go_enter Try.func8, Try.ntmps8
  go_wp2_with (first
  | (with_reducible show wpList _ _ _ (⟨some 1, Op.box 24 _, _, _, _, none⟩ :: _) _ _
     refine wpList_boxA_of rfl _ rfl (frA k n c p d cd) rfl ?_
     intro w1 x1 l1 s1
     have P1 := Lib.hid (show LwB w [bxO w.heap.size 24 (frA k n c p d cd)] w1 from (LwB.none w).add l1 x1 (Nat.le_refl _))
     obtain ⟨d0, d1, d2, d3⟩ := boxFr (P1.out.bx (i := 0) rfl)
     clear x1 l1 s1)
  | (with_reducible show wpList _ _ _ (⟨some 6, Op.load 24 _, _, _, _, _⟩ :: _) _ _
     refine wpList_boxA_loadw rowFr _ rfl rfl w.heap.size (frA k n c p d cd) (frA_size _ _ _ _ _ _) rfl (P1.out.bx (i := 0) rfl) ?_)
  | (go_at_call 22
     refine (IF.out _).mono ?_; rintro e w2 ⟨rfl, l2⟩
     have P2 := Lib.hid (P1.out.mono l2)
     clear l2 P1 IF d0 d1 d2 d3
     obtain ⟨d0, d1, d2, d3⟩ := boxFr (P2.out.bx (i := 0) rfl))
  | (go_at_call 23
     refine (A1.out _).mono ?_; rintro e w3 ⟨D3, rfl, b3, l3⟩
     have P3 := Lib.hid (P2.out.mono l3)
     have B3 := Lib.hid b3
     clear l3 b3 P2 A1 d0 d1 d2 d3
     obtain ⟨d0, d1, d2, d3⟩ := boxFr (P3.out.bx (i := 0) rfl))
  | (go_at_call 23
     have hh := B3
     clear hh
     refine (N2.out _ _).mono ?_; rintro e w4 ⟨rfl, rfl⟩
     clear N2 B3))
  go_ret2
  exact ⟨rfl, P3.out.low⟩
set_option maxRecDepth 100000 in
set_option maxHeartbeats 4000000 in
theorem Encode_no2 {w : World} (k n c : Int) (p : Option Addr) (d cd : Nat) (h : inK k d) (h2 : 0 ≤ n ∧ n ≤ 4294967295) (hn : ¬ (0 ≤ c ∧ c ≤ 255)) : Calls Try.prog 8 #[.agg (frA k n c p d cd)] w fun e w' => e = .returned (.tuple #[.slice none 0 0, .iface 35 (.int .i64 10)]) ∧ Below w.heap.size w w' := by
  have IF := Lib.hid (fun (W : World) => inForm_any (w := W) k n c p d cd)
  rw [decide_eq_true h] at IF
  obtain ⟨h1, h4⟩ : (1 ≤ k ∧ k ≤ 8) ∧ d ≤ 4096 := by unfold inK at h; exact h
  have A1 := Lib.hid (fun (W : World) => show Calls Try.prog 23 #[.slice none 0 0, .int .i64 1, .int .i64 k] W fun e W' => ∃ D, e = .returned (.tuple #[.slice (some ⟨D, 0, none⟩) 1 1, .nilIface]) ∧ BytesAt W' (some ⟨D, 0, none⟩) 1 (frT k n c d zeroK) ∧ Below W.heap.size W W' from
    put_step (T := frT k n c d zeroK) (n0 := 0) (s := 1) (z := k) (.inl rfl) (.inr ⟨by omega, by omega⟩) (fun j hj => (by rw [show j = 0 by omega, num1 ⟨by omega, by omega⟩, Nat.zero_add, frT_0])) (by omega) W none 0 (.inl rfl))
  have A2 := Lib.hid (fun (W : World) (q : Option Addr) (h : BytesAt W q 1 (frT k n c d zeroK)) => show Calls Try.prog 23 #[.slice q 1 1, .int .i64 4, .int .i64 n] W fun e W' => ∃ D, e = .returned (.tuple #[.slice (some ⟨D, 0, none⟩) 5 5, .nilIface]) ∧ BytesAt W' (some ⟨D, 0, none⟩) 5 (frT k n c d zeroK) ∧ Below W.heap.size W W' from
    put_step (T := frT k n c d zeroK) (n0 := 1) (s := 4) (z := n) (.inr (.inr (.inl rfl))) (.inr ⟨by omega, by omega⟩) (fun j hj => (frT_n k n c d zeroK hj).symm) (by omega) W q 1 h)
  have N3 := Lib.hid (fun (W : World) (q : Option Addr) => show Calls Try.prog 23 #[.slice q 5 5, .int .i64 1, .int .i64 c] W fun e W' => e = .returned (.tuple #[.slice none 0 0, .iface 35 (.int .i64 1)]) ∧ W = W' from put_no (s := 1) (.inl rfl) (fun hf => by unfold fitsN at hf; omega) 5 W q 5)
  clear h h2 hn h1 h4
  go_enter Try.func8, Try.ntmps8
  go_wp2_with (first
  | (with_reducible show wpList _ _ _ (⟨some 1, Op.box 24 _, _, _, _, none⟩ :: _) _ _
     refine wpList_boxA_of rfl _ rfl (frA k n c p d cd) rfl ?_
     intro w1 x1 l1 s1
     have P1 := Lib.hid (show LwB w [bxO w.heap.size 24 (frA k n c p d cd)] w1 from (LwB.none w).add l1 x1 (Nat.le_refl _))
     obtain ⟨d0, d1, d2, d3⟩ := boxFr (P1.out.bx (i := 0) rfl)
     clear x1 l1 s1)
  | (with_reducible show wpList _ _ _ (⟨some 6, Op.load 24 _, _, _, _, _⟩ :: _) _ _
     refine wpList_boxA_loadw rowFr _ rfl rfl w.heap.size (frA k n c p d cd) (frA_size _ _ _ _ _ _) rfl (P1.out.bx (i := 0) rfl) ?_)
  | (go_at_call 22
     refine (IF.out _).mono ?_; rintro e w2 ⟨rfl, l2⟩
     have P2 := Lib.hid (P1.out.mono l2)
     clear l2 P1 IF d0 d1 d2 d3
     obtain ⟨d0, d1, d2, d3⟩ := boxFr (P2.out.bx (i := 0) rfl))
  | (go_at_call 23
     refine (A1.out _).mono ?_; rintro e w3 ⟨D3, rfl, b3, l3⟩
     have P3 := Lib.hid (P2.out.mono l3)
     have B3 := Lib.hid b3
     clear l3 b3 P2 A1 d0 d1 d2 d3
     obtain ⟨d0, d1, d2, d3⟩ := boxFr (P3.out.bx (i := 0) rfl))
  | (go_at_call 23
     have hh := B3
     clear hh
     refine (A2.out _ _ B3.out).mono ?_; rintro e w4 ⟨D4, rfl, b4, l4⟩
     have P4 := Lib.hid (P3.out.mono l4)
     have B4 := Lib.hid b4
     clear l4 b4 P3 B3 A2 d0 d1 d2 d3
     obtain ⟨d0, d1, d2, d3⟩ := boxFr (P4.out.bx (i := 0) rfl))
  | (go_at_call 23
     have hh := B4
     clear hh
     refine (N3.out _ _).mono ?_; rintro e w5 ⟨rfl, rfl⟩
     clear N3 B4))
  go_ret2
  exact ⟨rfl, P4.out.low⟩
theorem Encode_no {w : World} (k n c : Int) (p : Option Addr) (d cd : Nat) (h : ¬ inF k n c d) : Calls Try.prog 8 #[.agg (frA k n c p d cd)] w fun e w' => e = .returned (.tuple #[.slice none 0 0, .iface 35 (.int .i64 10)]) ∧ Below w.heap.size w w' := by
  by_cases h0 : inK k d
  case neg => exact Encode_no0 k n c p d cd h0
  by_cases h1 : 0 ≤ n ∧ n ≤ 4294967295
  case neg => exact Encode_no1 k n c p d cd h0 h1
  exact Encode_no2 k n c p d cd h0 h1 (fun h2 => h (inF_K.2 ⟨h0, h1, h2⟩))
set_option maxRecDepth 100000 in
set_option maxHeartbeats 4000000 in
theorem Encode_ok {w : World} (k n c : Int) {p : Option Addr} {d cd : Nat} {g : Nat → Nat} (hi : inF k n c d) (hc : d ≤ cd) (hq : BytesAt w p d g) : Calls Try.prog 8 #[.agg (frA k n c p d cd)] w fun e w' => ∃ D C, ∃ G : Nat → Nat, e = .returned (.tuple #[.slice (some ⟨D, 0, none⟩) (8 + d) C, .nilIface]) ∧ BlkR w' D C G ∧ (∀ j, j < 8 + d → G j = frT k n c d g j) ∧ 8 + d ≤ C ∧ w.heap.size ≤ D ∧ Below w.heap.size w w' := by
  have IF := Lib.hid (fun (W : World) => inForm_any (w := W) k n c p d cd)
  rw [decide_eq_true (inF_K.1 hi).1] at IF
  obtain ⟨h1, h2, h3, h4⟩ : (1 ≤ k ∧ k ≤ 8) ∧ (0 ≤ n ∧ n ≤ 4294967295) ∧ (0 ≤ c ∧ c ≤ 255) ∧ d ≤ 4096 := by unfold inF at hi; exact hi
  have HQ := Lib.hid (fun (W : World) (h : Below w.heap.size w W) => hq.below h)
  have A1 := Lib.hid (fun (W : World) => show Calls Try.prog 23 #[.slice none 0 0, .int .i64 1, .int .i64 k] W fun e W' => ∃ D, e = .returned (.tuple #[.slice (some ⟨D, 0, none⟩) 1 1, .nilIface]) ∧ BytesAt W' (some ⟨D, 0, none⟩) 1 (frT k n c d g) ∧ Below W.heap.size W W' from
    put_step (T := frT k n c d g) (n0 := 0) (s := 1) (z := k) (.inl rfl) (.inr ⟨by omega, by omega⟩) (fun j hj => (by rw [show j = 0 by omega, num1 ⟨by omega, by omega⟩, Nat.zero_add, frT_0])) (by omega) W none 0 (.inl rfl))
  have A2 := Lib.hid (fun (W : World) (q : Option Addr) (h : BytesAt W q 1 (frT k n c d g)) => show Calls Try.prog 23 #[.slice q 1 1, .int .i64 4, .int .i64 n] W fun e W' => ∃ D, e = .returned (.tuple #[.slice (some ⟨D, 0, none⟩) 5 5, .nilIface]) ∧ BytesAt W' (some ⟨D, 0, none⟩) 5 (frT k n c d g) ∧ Below W.heap.size W W' from
    put_step (T := frT k n c d g) (n0 := 1) (s := 4) (z := n) (.inr (.inr (.inl rfl))) (.inr ⟨by omega, by omega⟩) (fun j hj => (frT_n k n c d g hj).symm) (by omega) W q 1 h)
  have A3 := Lib.hid (fun (W : World) (q : Option Addr) (h : BytesAt W q 5 (frT k n c d g)) => show Calls Try.prog 23 #[.slice q 5 5, .int .i64 1, .int .i64 c] W fun e W' => ∃ D, e = .returned (.tuple #[.slice (some ⟨D, 0, none⟩) 6 6, .nilIface]) ∧ BytesAt W' (some ⟨D, 0, none⟩) 6 (frT k n c d g) ∧ Below W.heap.size W W' from
    put_step (T := frT k n c d g) (n0 := 5) (s := 1) (z := c) (.inl rfl) (.inr ⟨by omega, by omega⟩) (fun j hj => (by rw [show j = 0 by omega, num1 h3, Nat.add_zero, frT_c])) (by omega) W q 5 h)
  have A4 := Lib.hid (fun (W : World) (q : Option Addr) (h : BytesAt W q 6 (frT k n c d g)) (h' : BytesAt W p d g) => show Calls Try.prog 24 #[.slice q 6 6, .slice p d cd] W fun e W' => ∃ D, ∃ F : Nat → Nat, e = .returned (.tuple #[.slice (some ⟨D, 0, none⟩) (8 + d) (8 + d), .nilIface]) ∧ BlkR W' D (8 + d) F ∧ (∀ j, j < 8 + d → F j = frT k n c d g j) ∧ W.heap.size ≤ D ∧ Below W.heap.size W W' from
    row_step (T := frT k n c d g) (n0 := 6) (m := d) (fun j hj => (frT_d k n c d g hj).symm) (fun j hj => (frT_g k n c d g j).symm) (by omega) h4 W q p 6 cd hc h h')
  clear hi hc hq h1 h2 h3 h4
  go_enter Try.func8, Try.ntmps8
  go_wp2_with (first
  | (with_reducible show wpList _ _ _ (⟨some 1, Op.box 24 _, _, _, _, none⟩ :: _) _ _
     refine wpList_boxA_of rfl _ rfl (frA k n c p d cd) rfl ?_
     intro w1 x1 l1 s1
     have P1 := Lib.hid (show LwB w [bxO w.heap.size 24 (frA k n c p d cd)] w1 from (LwB.none w).add l1 x1 (Nat.le_refl _))
     obtain ⟨d0, d1, d2, d3⟩ := boxFr (P1.out.bx (i := 0) rfl)
     clear x1 l1 s1)
  | (with_reducible show wpList _ _ _ (⟨some 6, Op.load 24 _, _, _, _, _⟩ :: _) _ _
     refine wpList_boxA_loadw rowFr _ rfl rfl w.heap.size (frA k n c p d cd) (frA_size _ _ _ _ _ _) rfl (P1.out.bx (i := 0) rfl) ?_)
  | (go_at_call 22
     refine (IF.out _).mono ?_; rintro e w2 ⟨rfl, l2⟩
     have P2 := Lib.hid (P1.out.mono l2)
     clear l2 P1 IF d0 d1 d2 d3
     obtain ⟨d0, d1, d2, d3⟩ := boxFr (P2.out.bx (i := 0) rfl))
  | (go_at_call 23
     refine (A1.out _).mono ?_; rintro e w3 ⟨D3, rfl, b3, l3⟩
     have P3 := Lib.hid (P2.out.mono l3)
     have B3 := Lib.hid b3
     clear l3 b3 P2 A1 d0 d1 d2 d3
     obtain ⟨d0, d1, d2, d3⟩ := boxFr (P3.out.bx (i := 0) rfl))
  | (go_at_call 23
     have hh := B3
     clear hh
     refine (A2.out _ _ B3.out).mono ?_; rintro e w4 ⟨D4, rfl, b4, l4⟩
     have P4 := Lib.hid (P3.out.mono l4)
     have B4 := Lib.hid b4
     clear l4 b4 P3 B3 A2 d0 d1 d2 d3
     obtain ⟨d0, d1, d2, d3⟩ := boxFr (P4.out.bx (i := 0) rfl))
  | (go_at_call 23
     have hh := B4
     clear hh
     refine (A3.out _ _ B4.out).mono ?_; rintro e w5 ⟨D5, rfl, b5, l5⟩
     have P5 := Lib.hid (P4.out.mono l5)
     have B5 := Lib.hid b5
     clear l5 b5 P4 B4 A3 d0 d1 d2 d3
     obtain ⟨d0, d1, d2, d3⟩ := boxFr (P5.out.bx (i := 0) rfl))
  | (go_at_call 24
     refine (A4.out _ _ B5.out (HQ.out _ P5.out.low)).mono ?_; rintro e w6 ⟨D6, F6, rfl, b6, f6, t6, l6⟩
     have P6 := Lib.hid (P5.out.mono l6)
     have B6 := Lib.hid b6
     have F6' := Lib.hid f6
     have T6 := Lib.hid (Nat.le_trans P5.out.low.size t6)
     clear l6 b6 f6 t6 P5 B5 A4 d0 d1 d2 d3))
  go_ret2
  exact ⟨_, _, _, rfl, B6.out, F6'.out, Nat.le_refl _, T6.out, P6.out.low⟩
end Go.Proofs.Ytebbnkkhabehmaa

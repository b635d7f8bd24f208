/- The contract of the law's goes. Conditions: the package's variable holds the constants; package chap answers as its spec says. -/
import Derived.Test.YtccpecajbfpjdaaDoorChOpen
namespace Go.Proofs.YtccpecajbfpjdaaDoor
open Go.ChangeShapes Go.WideShapes Go.ChangeAt Go.RowKit Go.Shelf
set_option linter.unusedVariables false
set_option linter.unusedSimpArgs false
/-- A guarded operation that is wanted is walked as one without a guard. -/
theorem wpList_unguard {P : Program} {ops : Array Oper} {rest : List Oper} {o : Oper} {a : Act} {w : World} {Q : Exit → Act → World → Prop} (hw : Region.wanted o (yielded ops a.tmps) = true) (h : wpList P ops Q (⟨o.dst, o.op, o.type, o.pos, o.after, none⟩ :: rest) a w) : wpList P ops Q (o :: rest) a w := by
  unfold wpList at h ⊢
  rw [if_pos hw]
  rw [if_pos (show Region.wanted ⟨o.dst, o.op, o.type, o.pos, o.after, none⟩ (yielded ops a.tmps) = true from rfl)] at h
  exact h
theorem atN_add (b : Int) (f i : Nat) : atN (atN b f) i = atN b (f + i) := by
  unfold atN; simp only [IntKind.wrap_i64]; omega
theorem fresh_on (s b : Int) (f j : Nat) : freshT s (atN b f) j = freshT s b (32 * f + j) := by
  unfold freshT
  rw [atN_add, show (32 * f + j) / 32 = f + j / 32 by omega, show (32 * f + j) % 32 = j % 32 by omega]
theorem atN_num (b : Int) (f : Nat) : atN b ((32 * f + 31) / 32) = atN b f := by rw [show (32 * f + 31) / 32 = f by omega]
theorem blk_bytes2 {w : World} {D C m : Nat} {G F : Nat → Nat} (h : BlkR w D C G) (hc : m ≤ C) (hf : ∀ j, j < m → G j = F j) : BytesAt w (some ⟨D, 0, none⟩) m F := .inr ⟨D, 0, rfl, h.lt, fun j hj => by
  obtain ⟨R, hR, h⟩ := h
  rw [← hf j hj]
  have := h.cells (o := 0) (n := R) (by omega) j (by omega)
  simpa using this⟩
theorem wpList_bytes0 {ops : Array Oper} {rest : List Oper} {o : Oper} {a : Act} {w : World} {Q : Exit → Act → World → Prop} (hgd : o.guard = none) (ho : o.op = .buildSlice 22 0 #[])
    (h : wpList Tryd.prog ops Q rest (a.put o.dst (.slice (some ⟨w.heap.size, 0, none⟩) 0 0)) (w.alloc (.cells (cellsOf .u8 []) 5))) : wpList Tryd.prog ops Q (o :: rest) a w :=
  wpList_plain hgd fun K hK => by
    have e : (Instr.buildSlice 22 0 #[]).run Tryd.prog w = .ok (.slice (some ⟨w.heap.size, 0, none⟩) 0 0) (w.alloc (.cells (cellsOf .u8 []) 5)) := by simp [go_sem, cellsOf]
    unfold Oper.wp execOp
    simp only [ho]
    simp [e]
    exact hK _ _ h
attribute [local irreducible] drwD mk zeroK atN freshT
attribute [local go_sem] Oper.semAt_some
set_option maxRecDepth 100000 in
set_option maxHeartbeats 1000000 in
theorem goes_any (CS : ChapSpec) {w : World} (hT : TabAt w) (s b f g : Int) (hs : okI s) (hb : okI b) : Calls Tryd.prog 21 #[.int .i64 s, .int .i64 b, .int .i64 f, .int .i64 g] w fun e w' => e = .returned (.bool true) ∧ Below w.heap.size w w' := by
  obtain ⟨u, hu⟩ : ∃ u : Nat, IntKind.u64.wrap f = (u : Int) := by
    rw [IntKind.wrap_u64]; exact ⟨(f % 18446744073709551616).toNat, by omega⟩
  obtain ⟨v, hv⟩ : ∃ v : Nat, IntKind.u64.wrap g = (v : Int) := by
    rw [IntKind.wrap_u64]; exact ⟨(g % 18446744073709551616).toNat, by omega⟩
  obtain ⟨k1, hk1⟩ : ∃ k1 : Nat, k1 = 1 + u % 6 := ⟨_, rfl⟩
  obtain ⟨m1, hm1⟩ : ∃ m1 : Nat, m1 = 32 * k1 := ⟨_, rfl⟩
  obtain ⟨m2, hm2⟩ : ∃ m2 : Nat, m2 = 1 + v % 200 := ⟨_, rfl⟩
  obtain ⟨m3, hm3⟩ : ∃ m3 : Nat, m3 = m1 + m2 := ⟨_, rfl⟩
  have q1 : IntKind.i64.wrap ((u : Int) % 6) = (u : Int) % 6 := IntWalk.i64_in _ (by omega)
  have q2 : IntKind.i64.wrap (1 + (u : Int) % 6) = (k1 : Int) := by rw [IntWalk.i64_in _ (by omega)]; omega
  have q3 : IntKind.i64.wrap (32 * (k1 : Int)) = (m1 : Int) := by rw [IntWalk.i64_in _ (by omega)]; omega
  have p1 : IntKind.i64.wrap ((v : Int) % 200) = (v : Int) % 200 := IntWalk.i64_in _ (by omega)
  have p2 : IntKind.i64.wrap (1 + (v : Int) % 200) = (m2 : Int) := by rw [IntWalk.i64_in _ (by omega)]; omega
  have p3 : IntKind.i64.wrap ((m1 : Int) + (m2 : Int)) = (m3 : Int) := by rw [IntWalk.i64_in _ (by omega)]; omega
  have HT := Lib.hid hT
  have HM := Lib.hid (show m3 = m1 + m2 ∧ m1 ≤ 192 ∧ m2 ≤ 200 from ⟨hm3, by omega, by omega⟩)
  have N1 := Lib.hid (show ∀ (W : World), TabAt W → Calls Tryd.prog 18 #[.int .i64 s, .int .i64 b, .int .i64 m1] W fun e W' => ∃ D C, ∃ G : Nat → Nat, e = .returned (.tuple #[.slice (some ⟨D, 0, none⟩) m1 C, .int .i64 (atN b k1)]) ∧ BlkR W' D C G ∧ (∀ j, j < m1 → G j = freshT s b j) ∧ m1 ≤ C ∧ W.heap.size ≤ D ∧ Below W.heap.size W W' from fun W t => by
    have h := CS.fresh t s b hs hb m1 (by omega) (by omega)
    rw [show (m1 + 31) / 32 = k1 by omega] at h
    exact h)
  have N2 := Lib.hid (fun (W : World) (t : TabAt W) => CS.fresh t s (atN b k1) hs (atN_in b k1) m2 (by omega) (by omega))
  have N3 := Lib.hid (fun (W : World) (t : TabAt W) => CS.fresh t s b hs hb m3 (by omega) (by omega))
  have FO := Lib.hid (show ∀ j, j < m2 → freshT s (atN b k1) j = freshT s b (m1 + j) from fun j _ => by rw [fresh_on, hm1])
  clear hk1 hm1 hm2 hm3 hT hs hb CS
  generalize atN b k1 = z1 at *
  go_enter Tryd.func21, Tryd.ntmps21
  go_wp2_with (first
  | (go_at_call 18
     refine (N1.out _ HT.out).mono ?_; rintro e w1 ⟨D, C, G, rfl, b1, g1, c1, d1, l1⟩
     have A1 := Lib.hid (blk_bytes2 b1 c1 g1)
     have P1 := Lib.hid l1
     clear b1 g1 c1 d1 l1 N1)
  | (go_at_call 18
     refine (N2.out w1 (HT.out.on P1.out)).mono ?_; rintro e w2 ⟨E, C2, G2, rfl, b2, g2, c2, d2, l2⟩
     have B2 := Lib.hid (blk_bytes2 b2 c2 g2)
     have A2 := Lib.hid (A1.out.below l2)
     have P2 := Lib.hid (P1.out.trans (l2.mono P1.out.size))
     clear b2 g2 c2 d2 l2 N2 A1 P1)
  | (go_at_call 18
     refine (N3.out w2 (HT.out.on P2.out)).mono ?_; rintro e w3 ⟨H, C3, G3, rfl, b3, g3, c3, d3, l3⟩
     have X3 := Lib.hid (blk_bytes2 b3 c3 g3)
     have B3 := Lib.hid (B2.out.below l3)
     have A3 := Lib.hid (A2.out.below l3)
     have P3 := Lib.hid (P2.out.trans (l3.mono P2.out.size))
     clear b3 g3 c3 d3 l3 N3 A2 B2 P2)
  | (with_reducible show wpList _ _ _ (⟨some 60, Op.buildSlice 22 _ _, _, _, _, _⟩ :: _) _ _
     refine wpList_unguard rfl ?_
     refine wpList_bytes0 rfl rfl ?_
     have O4 := Lib.hid (OwnS.empty w3 (freshT s b) w3.heap.size (Nat.le_refl _))
     have bb := Below.alloc (Below.refl w3.heap.size w3) (Nat.le_refl _) (.cells (cellsOf .u8 []) 5)
     have L4 := Lib.hid bb
     clear bb
     generalize w3.alloc (.cells (cellsOf .u8 []) 5) = w4 at *)
  | (refine wpList_unguard rfl ?_
     refine wpList_append_own_bytes rfl _ _ rfl w3.heap.size (w3.heap.size + 1) 0 _ (freshT s b) (freshT s b) (some ⟨D, 0, none⟩) m1 C rfl rfl O4.out (A3.out.below L4.out) (fun j _ => by rw [Nat.zero_add]) (by have := HM.out; omega) L4.out.size ?_
     intro v5 w5 o5 l5
     rw [Nat.zero_add] at o5
     have O5 := Lib.hid o5
     have L5 := Lib.hid (L4.out.trans l5)
     clear o5 l5 O4 L4)
  | (refine wpList_unguard rfl ?_
     refine wpList_append_own_bytes rfl _ _ rfl w3.heap.size w5.heap.size m1 v5 (freshT s b) (freshT s z1) (some ⟨E, 0, none⟩) m2 C2 rfl rfl O5.out (B3.out.below L5.out) FO.out (by have := HM.out; omega) L5.out.size ?_
     intro v6 w6 o6 l6
     rw [← HM.out.1] at o6
     obtain ⟨p6, c6, rfl, -, -, b6, -⟩ := o6.bytes (Nat.le_refl _)
     have B6 := Lib.hid b6
     have L6 := Lib.hid (L5.out.trans l6)
     clear o6 l6 b6 O5 L5)
  | (go_at_call 14
     refine (Same_true p6 m3 c6 (some ⟨H, 0, none⟩) C3 (freshT s b) (freshT s b) (fun _ _ => rfl) _ B6.out (X3.out.below L6.out)).mono ?_; rintro e w7 ⟨rfl, rfl⟩))
  go_ret
  exact ⟨rfl, P3.out.trans (L6.out.mono P3.out.size)⟩
end Go.Proofs.YtccpecajbfpjdaaDoor

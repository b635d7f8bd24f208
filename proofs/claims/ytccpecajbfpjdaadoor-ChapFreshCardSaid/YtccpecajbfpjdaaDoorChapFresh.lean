/- ChapFresh: which bytes are fresh. Conditions: the package's variable holds the constants; package chap answers as its spec says. -/
import Derived.Test.YtccpecajbfpjdaaDoorChLaw
import Derived.Test.YtccpecajbfpjdaaDoorChOp2
import Derived.Test.YtccpecajbfpjdaaDoorTie
import Derived.Test.YtccpecajbfpjdaaDoorCards
namespace Go.Proofs.YtccpecajbfpjdaaDoor
open Go.ChangeShapes Go.WideShapes Go.ChangeAt Go.RowKit Go.Shelf
theorem Apart_pair {D C E C' m : Nat} {G G' : Nat → Nat} {T LB : Nat} {w : World} (h0 : BlkR w D C G) (h1 : BlkR w E C' G') (c0 : m ≤ C) (c1 : m ≤ C') (hm : m ≤ 140737488351232) (ne : D ≠ E) (t0 : T ≤ D) (t1 : T ≤ E) (hT : T ≤ w.heap.size)
    (hL : w.heap[LB]? = some (.cells #[.slice (some ⟨D, 0, none⟩) m C, .slice (some ⟨E, 0, none⟩) m C'] 22 (0, 0))) : Calls Tryd.prog 20 #[.slice (some ⟨LB, 0, none⟩) 2 2] w fun e w' => e = .returned (.bool true) ∧ Below T w w' := by
  have two : ∀ i, i < 2 → i = 0 ∨ i = 1 := fun i hi => by omega
  refine Apart_own 2 (fun i => if i = 0 then D else E) (fun _ => m) (fun i => if i = 0 then C else C') (fun _ => false) (fun i => if i = 0 then G else G') T LB _ w (by omega) (by omega) ?_ ?_ hL ?_ hT
  · intro i hi
    rcases two i hi with rfl | rfl
    · obtain ⟨R, h1, h2⟩ := h0; exact .inr ⟨rfl, t0, c0, hm, R, h1, h2⟩
    · obtain ⟨R, h1, h2⟩ := h1; exact .inr ⟨rfl, t1, c1, hm, R, h1, h2⟩
  · intro i j hi hj _ _ c
    rcases two i hi with rfl | rfl <;> rcases two j hj with rfl | rfl
    · exact absurd rfl c
    · exact ne
    · exact ne.symm
    · exact absurd rfl c
  · intro i hi; rcases two i hi with rfl | rfl <;> rfl
theorem Apart_nils {T LB : Nat} {w : World} (hT : T ≤ w.heap.size) (hL : w.heap[LB]? = some (.cells #[.slice none 0 0, .slice none 0 0] 22 (0, 0))) : Calls Tryd.prog 20 #[.slice (some ⟨LB, 0, none⟩) 2 2] w fun e w' => e = .returned (.bool true) ∧ Below T w w' := by
  have two : ∀ i, i < 2 → i = 0 ∨ i = 1 := fun i hi => by omega
  refine Apart_own 2 (fun _ => 0) (fun _ => 0) (fun _ => 0) (fun _ => true) (fun _ => zeroK) T LB _ w (by omega) (by omega) (fun i _ => .inl ⟨rfl, rfl, rfl⟩) (fun i j _ _ h => by cases h) hL ?_ hT
  intro i hi; rcases two i hi with rfl | rfl <;> rfl
theorem blk_bytes {w : World} {D C m : Nat} {G F : Nat → Nat} (h : BlkR w D C G) (hc : m ≤ C) (hf : ∀ j, j < m → G j = F j) : BytesAt w (some ⟨D, 0, none⟩) m F := .inr ⟨D, 0, rfl, h.lt, fun j hj => by
  obtain ⟨R, hR, h⟩ := h
  rw [← hf j hj]
  have := h.cells (o := 0) (n := R) (by omega) j (by omega)
  simpa using this⟩
namespace chapFresh
set_option linter.unusedVariables false
set_option linter.unusedSimpArgs false
attribute [local irreducible] drwD mk zeroK atN freshT
attribute [local go_sem] Oper.semAt_some
set_option maxRecDepth 100000 in
set_option maxHeartbeats 2000000 in
theorem walk (CS : ChapSpec) {w : World} (hT : TabAt w) (s b m : Int) (hs : okI s) (hb : okI b) (hm : okI m) : Calls Tryd.prog 7 #[.int .i64 s, .int .i64 b, .int .i64 m] w fun e w' => e = .returned (.bool true) ∧ Below w.heap.size w w' := by
  have HT := Lib.hid hT
  have FX := Lib.hid (show ∀ (W : World), TabAt W → Calls Tryd.prog 18 #[.int .i64 1, .int .i64 5, .int .i64 33] W fun e W' => ∃ D C, e = .returned (.tuple #[.slice (some ⟨D, 0, none⟩) 33 C, .int .i64 7]) ∧ Below W.heap.size W W' from fun W t => by
    have h := CS.fresh t 1 5 ⟨by omega, by omega⟩ ⟨by omega, by omega⟩ 33 (by omega) (by omega)
    refine h.mono ?_
    rintro e W' ⟨D, C, G, rfl, -, -, -, -, l⟩
    exact ⟨D, C, by rw [show atN 5 ((33 + 31) / 32) = 7 by unfold atN; decide], l⟩)
  by_cases h1 : m < 1
  · have f1 : decide ((600 : Int) < m) = false := by simp; omega
    have N1 := Lib.hid (fun (W : World) => CS.none (W := W) s b m (by omega))
    have N2 := Lib.hid (fun (W : World) => refFresh_no (w := W) s b m (by omega))
    have N3 := Lib.hid (fun (W : World) => CS.none (W := W) s b m (by omega))
    clear hT hs hb hm CS h1
    go_enter Tryd.func7, Tryd.ntmps7
    go_wp2_with (first
      | (go_at_call 18
         refine (FX.out _ HT.out).mono ?_; rintro e w1 ⟨D0, C0, rfl, l1⟩
         have P1 := Lib.hid ((LwB.none w).mono l1)
         clear l1 FX)
      | (go_at_call 18
         refine (N1.out w1).mono ?_; rintro e w2 ⟨rfl, l2⟩
         have P2 := Lib.hid (P1.out.mono l2)
         clear l2 P1 N1)
      | (go_at_call 19
         refine (N2.out w2).mono ?_; rintro e w3 ⟨rfl, l3⟩
         have P3 := Lib.hid (P2.out.mono l3)
         clear l3 P2 N2)
      | (go_at_call 18
         refine (N3.out w3).mono ?_; rintro e w4 ⟨rfl, l4⟩
         have P4 := Lib.hid (P3.out.mono l4)
         clear l4 P3 N3)
      | (go_at_call 14
         refine (Same_true none 0 0 none 0 zeroK zeroK (fun _ _ => rfl) _ (.inl rfl) (.inl rfl)).mono ?_; rintro e w5 ⟨rfl, rfl⟩)
      | (refine wpList_lists2 rfl _ _ rfl none none 0 0 0 0 rfl rfl ?_
         have L5 := Lib.hid (heap_alloc_new w4 (.cells #[.slice none 0 0, .slice none 0 0] 22))
         have P5 := Lib.hid (P4.out.mono (Below.alloc (Below.refl w4.heap.size w4) (Nat.le_refl _) (.cells #[.slice none 0 0, .slice none 0 0] 22)))
         generalize w4.alloc (.cells #[.slice none 0 0, .slice none 0 0] 22) = w5 at *)
      | (go_at_call 20
         refine (Apart_nils P5.out.low.size L5.out).mono ?_; rintro e w6 ⟨rfl, l6⟩
         have P6 := Lib.hid (P5.out.low.trans l6)
         clear l6))
    go_ret
    exact ⟨rfl, P6.out⟩
  by_cases h2 : 4096 < m
  · have f1 : decide ((600 : Int) < m) = true := by simp; omega
    have f2 : decide (m ≤ 4096) = false := by simp; omega
    have N1 := Lib.hid (fun (W : World) => CS.none (W := W) s b m (by omega))
    have N2 := Lib.hid (fun (W : World) => refFresh_no (w := W) s b m (by omega))
    have N3 := Lib.hid (fun (W : World) => CS.none (W := W) s b m (by omega))
    clear hT hs hb hm CS h1 h2
    go_enter Tryd.func7, Tryd.ntmps7
    go_wp2_with (first
      | (go_at_call 18
         refine (FX.out _ HT.out).mono ?_; rintro e w1 ⟨D0, C0, rfl, l1⟩
         have P1 := Lib.hid ((LwB.none w).mono l1)
         clear l1 FX)
      | (go_at_call 18
         refine (N1.out w1).mono ?_; rintro e w2 ⟨rfl, l2⟩
         have P2 := Lib.hid (P1.out.mono l2)
         clear l2 P1 N1)
      | (go_at_call 19
         refine (N2.out w2).mono ?_; rintro e w3 ⟨rfl, l3⟩
         have P3 := Lib.hid (P2.out.mono l3)
         clear l3 P2 N2)
      | (go_at_call 18
         refine (N3.out w3).mono ?_; rintro e w4 ⟨rfl, l4⟩
         have P4 := Lib.hid (P3.out.mono l4)
         clear l4 P3 N3)
      | (go_at_call 14
         refine (Same_true none 0 0 none 0 zeroK zeroK (fun _ _ => rfl) _ (.inl rfl) (.inl rfl)).mono ?_; rintro e w5 ⟨rfl, rfl⟩)
      | (refine wpList_lists2 rfl _ _ rfl none none 0 0 0 0 rfl rfl ?_
         have L5 := Lib.hid (heap_alloc_new w4 (.cells #[.slice none 0 0, .slice none 0 0] 22))
         have P5 := Lib.hid (P4.out.mono (Below.alloc (Below.refl w4.heap.size w4) (Nat.le_refl _) (.cells #[.slice none 0 0, .slice none 0 0] 22)))
         generalize w4.alloc (.cells #[.slice none 0 0, .slice none 0 0] 22) = w5 at *)
      | (go_at_call 20
         refine (Apart_nils P5.out.low.size L5.out).mono ?_; rintro e w6 ⟨rfl, l6⟩
         have P6 := Lib.hid (P5.out.low.trans l6)
         clear l6))
    go_ret
    exact ⟨rfl, P6.out⟩
  by_cases h3 : 600 < m
  · have f1 : decide ((600 : Int) < m) = true := by simp; omega
    have f2 : decide (m ≤ 4096) = true := by simp; omega
    have N1 := Lib.hid (fun (W : World) (t : TabAt W) => (show Calls Tryd.prog 18 #[.int .i64 s, .int .i64 b, .int .i64 600] W _ from CS.fresh t s b hs hb 600 (by omega) (by omega)))
    have N3 := Lib.hid (fun (W : World) (t : TabAt W) => (show Calls Tryd.prog 18 #[.int .i64 s, .int .i64 b, .int .i64 600] W _ from CS.fresh t s b hs hb 600 (by omega) (by omega)))
    have N2 := Lib.hid (fun (W : World) => (show Calls Tryd.prog 19 #[.int .i64 s, .int .i64 b, .int .i64 600] W _ from refFresh_ok (w := W) s b hb 600 (by omega) (by omega)))
    have HK := Lib.hid (show (600 : Nat) ≤ 4096 by omega)
    clear hT hs hb hm CS h1 h2 h3
    go_enter Tryd.func7, Tryd.ntmps7
    go_wp2_with (first
      | (go_at_call 18
         refine (FX.out _ HT.out).mono ?_; rintro e w1 ⟨D0, C0, rfl, l1⟩
         have P1 := Lib.hid ((LwB.none w).mono l1)
         clear l1 FX)
      | (go_at_call 18
         refine (N1.out w1 (HT.out.on P1.out.low)).mono ?_; rintro e w2 ⟨D, C, G, rfl, b2, g2, c2, d2, l2⟩
         have B2 := Lib.hid b2
         have F2 := Lib.hid (show (∀ j, j < 600 → G j = freshT s b j) ∧ 600 ≤ C ∧ w.heap.size ≤ D from ⟨g2, c2, Nat.le_trans P1.out.low.size d2⟩)
         have P2 := Lib.hid (P1.out.mono l2)
         clear l2 b2 g2 c2 d2 P1 N1)
      | (go_at_call 19
         refine (N2.out w2).mono ?_; rintro e w3 ⟨p, c, rfl, b3, l3⟩
         have P3 := Lib.hid (P2.out.mono l3)
         have B3 := Lib.hid (B2.out.below l3 B2.out.lt)
         have R3 := Lib.hid b3
         clear l3 b3 P2 B2 N2)
      | (go_at_call 18
         refine (N3.out w3 (HT.out.on P3.out.low)).mono ?_; rintro e w4 ⟨E, C', G', rfl, b4, g4, c4, d4, l4⟩
         have F4 := Lib.hid (show (∀ j, j < 600 → G' j = freshT s b j) ∧ 600 ≤ C' ∧ w.heap.size ≤ E ∧ D ≠ E from ⟨g4, c4, Nat.le_trans P3.out.low.size d4, by have := B3.out.lt; omega⟩)
         have P4 := Lib.hid (P3.out.mono l4)
         have B4 := Lib.hid (B3.out.below l4 B3.out.lt)
         have E4 := Lib.hid b4
         have R4 := Lib.hid (R3.out.below l4)
         clear l4 b4 g4 c4 d4 P3 B3 R3 N3)
      | (go_at_call 14
         refine (Same_true (some ⟨D, 0, none⟩) 600 C p c (freshT s b) (freshT s b) (fun _ _ => rfl) _ (blk_bytes B4.out F2.out.2.1 F2.out.1) R4.out).mono ?_; rintro e w5 ⟨rfl, rfl⟩
         clear R4)
      | (refine wpList_lists2 rfl _ _ rfl (some ⟨D, 0, none⟩) (some ⟨E, 0, none⟩) 600 600 C C' rfl rfl ?_
         have L5 := Lib.hid (heap_alloc_new w4 (.cells #[.slice (some ⟨D, 0, none⟩) 600 C, .slice (some ⟨E, 0, none⟩) 600 C'] 22))
         have bb := Below.alloc (Below.refl w4.heap.size w4) (Nat.le_refl _) (.cells #[.slice (some ⟨D, 0, none⟩) 600 C, .slice (some ⟨E, 0, none⟩) 600 C'] 22)
         have P5 := Lib.hid (P4.out.mono bb)
         have B5 := Lib.hid (B4.out.below bb B4.out.lt)
         have E5 := Lib.hid (E4.out.below bb E4.out.lt)
         clear bb P4 B4 E4
         generalize w4.alloc (.cells #[.slice (some ⟨D, 0, none⟩) 600 C, .slice (some ⟨E, 0, none⟩) 600 C'] 22) = w5 at *)
      | (go_at_call 20
         refine (Apart_pair B5.out E5.out F2.out.2.1 F4.out.2.1 (by have := HK.out; omega) F4.out.2.2.2 F2.out.2.2 F4.out.2.2.1 P5.out.low.size L5.out).mono ?_; rintro e w6 ⟨rfl, l6⟩
         have P6 := Lib.hid (P5.out.low.trans l6)
         clear l6))
    go_ret
    exact ⟨rfl, P6.out⟩
  obtain ⟨k, rfl⟩ : ∃ k : Nat, m = (k : Int) := ⟨m.toNat, by omega⟩
  have f1 : decide ((600 : Int) < (k : Int)) = false := by simp; omega
  have f2 : decide (600 < k) = false := by simp; omega
  have N1 := Lib.hid (fun (W : World) (t : TabAt W) => CS.fresh t s b hs hb k (by omega) (by omega))
  have N2 := Lib.hid (fun (W : World) => refFresh_ok (w := W) s b hb k (by omega) (by omega))
  have N3 := Lib.hid (fun (W : World) (t : TabAt W) => CS.fresh t s b hs hb k (by omega) (by omega))
  have HK := Lib.hid (show k ≤ 4096 by omega)
  clear hT hs hb hm CS h1 h2 h3
  go_enter Tryd.func7, Tryd.ntmps7
  go_wp2_with (first
    | (go_at_call 18
       refine (FX.out _ HT.out).mono ?_; rintro e w1 ⟨D0, C0, rfl, l1⟩
       have P1 := Lib.hid ((LwB.none w).mono l1)
       clear l1 FX)
    | (go_at_call 18
       refine (N1.out w1 (HT.out.on P1.out.low)).mono ?_; rintro e w2 ⟨D, C, G, rfl, b2, g2, c2, d2, l2⟩
       have B2 := Lib.hid b2
       have F2 := Lib.hid (show (∀ j, j < k → G j = freshT s b j) ∧ k ≤ C ∧ w.heap.size ≤ D from ⟨g2, c2, Nat.le_trans P1.out.low.size d2⟩)
       have P2 := Lib.hid (P1.out.mono l2)
       clear l2 b2 g2 c2 d2 P1 N1)
    | (go_at_call 19
       refine (N2.out w2).mono ?_; rintro e w3 ⟨p, c, rfl, b3, l3⟩
       have P3 := Lib.hid (P2.out.mono l3)
       have B3 := Lib.hid (B2.out.below l3 B2.out.lt)
       have R3 := Lib.hid b3
       clear l3 b3 P2 B2 N2)
    | (go_at_call 18
       refine (N3.out w3 (HT.out.on P3.out.low)).mono ?_; rintro e w4 ⟨E, C', G', rfl, b4, g4, c4, d4, l4⟩
       have F4 := Lib.hid (show (∀ j, j < k → G' j = freshT s b j) ∧ k ≤ C' ∧ w.heap.size ≤ E ∧ D ≠ E from ⟨g4, c4, Nat.le_trans P3.out.low.size d4, by have := B3.out.lt; omega⟩)
       have P4 := Lib.hid (P3.out.mono l4)
       have B4 := Lib.hid (B3.out.below l4 B3.out.lt)
       have E4 := Lib.hid b4
       have R4 := Lib.hid (R3.out.below l4)
       clear l4 b4 g4 c4 d4 P3 B3 R3 N3)
    | (go_at_call 14
       refine (Same_true (some ⟨D, 0, none⟩) k C p c (freshT s b) (freshT s b) (fun _ _ => rfl) _ (blk_bytes B4.out F2.out.2.1 F2.out.1) R4.out).mono ?_; rintro e w5 ⟨rfl, rfl⟩
       clear R4)
    | (refine wpList_lists2 rfl _ _ rfl (some ⟨D, 0, none⟩) (some ⟨E, 0, none⟩) k k C C' rfl rfl ?_
       have L5 := Lib.hid (heap_alloc_new w4 (.cells #[.slice (some ⟨D, 0, none⟩) k C, .slice (some ⟨E, 0, none⟩) k C'] 22))
       have bb := Below.alloc (Below.refl w4.heap.size w4) (Nat.le_refl _) (.cells #[.slice (some ⟨D, 0, none⟩) k C, .slice (some ⟨E, 0, none⟩) k C'] 22)
       have P5 := Lib.hid (P4.out.mono bb)
       have B5 := Lib.hid (B4.out.below bb B4.out.lt)
       have E5 := Lib.hid (E4.out.below bb E4.out.lt)
       clear bb P4 B4 E4
       generalize w4.alloc (.cells #[.slice (some ⟨D, 0, none⟩) k C, .slice (some ⟨E, 0, none⟩) k C'] 22) = w5 at *)
    | (go_at_call 20
       refine (Apart_pair B5.out E5.out F2.out.2.1 F4.out.2.1 (by have := HK.out; omega) F4.out.2.2.2 F2.out.2.2 F4.out.2.2.1 P5.out.low.size L5.out).mono ?_; rintro e w6 ⟨rfl, l6⟩
       have P6 := Lib.hid (P5.out.low.trans l6)
       clear l6))
  go_ret
  exact ⟨rfl, P6.out⟩
theorem own : ownKnob Tryd.prog.godebug = none := by kernel_rfl
set_option maxRecDepth 100000 in
theorem lifted (os : Os) (started : os.Started) (H : Type) (enc : TypeId × Value → H) :
    ReturnsInHanded {} Tryd.checked os 7 .any (fun w args => (Rows.chapFreshSpec.pre enc Tryd.prog Tryd.f7 Rows.chapFreshRow.domain false w args ∧ laidMetH Tryd.prog Rows.chapFreshRow.laid w) ∧ sizedMet enc Tryd.prog Tryd.f7 (OpenSpec.ofChange Rows.chapFreshSpec) false w args) (Rows.chapFreshSpec.post enc Tryd.prog Tryd.f7 false true false false) := by
  refine returnsInHanded_of_change_and (C := Tryd.checked) (X := fun w _ => laidMetH Tryd.prog Rows.chapFreshRow.laid w) (fun _ _ _ hh h => h.of_heap hh) own started (by kernel_rfl) Tryd.func7
    (ChangeSpec.witness_shaped (enc := enc) (C := Tryd.checked) (os := os) (X := fun w _ => laidMetH Tryd.prog Rows.chapFreshRow.laid w) false (World.laidAll Tryd.prog os Rows.chapFreshRow.laid) #[.int .i64 0, .int .i64 0, .int .i64 0] 8 (World.laidAll_os _ _ _)
      (World.shaped_of_ZipB (by kernel_rfl) (by kernel_rfl)) (by kernel_rfl) (by kernel_rfl) (by kernel_rfl)
      (by rw [MakeChecks.laidMetH_plain _ _ _ (by kernel_rfl)]; exact laidMet_laidAll _ (by kernel_rfl) (by kernel_rfl))) ?_
  intro W base args ds gs before hval0 hW hcnd hsz hL _
  have hT := tab_of_laid hL
  have hval : ∀ (j : Nat) t v, Tryd.f7.params[j]? = some t → args[j]? = some v → Value.okWide Tryd.prog W .any base t v := hval0
  have hW' := hW
  obtain ⟨p, q, hA0, hV, rfl, hfz, hnd⟩ := hW
  have hA : DataW.TrodAll enc Tryd.prog W 0 (fun _ => true) true Tryd.f7.params.toList args.toList ds p := hA0
  rw [Tryd.params7] at hA hval
  obtain ⟨v0, vs0, d0, ds0, p0, q0, hargs, rfl, rfl, h0, r0⟩ := trodAll_cons hA
  obtain ⟨v1, vs1, d1, ds1, p1, q1, rfl, rfl, rfl, h1, r1⟩ := trodAll_cons r0
  obtain ⟨v2, vs2, d2, ds2, p2, q2, rfl, rfl, rfl, h2, r2⟩ := trodAll_cons r1
  obtain ⟨rfl, rfl, rfl⟩ := trodAll_nil r2
  obtain rfl : args = #[v0, v1, v2] := by cases args; simp_all
  obtain ⟨rfl, rfl⟩ := trodVars_none hV
  obtain ⟨a0, rfl, rfl, rfl, w0⟩ := open_int Tryd.underlying3 (hval 0 3 v0 rfl rfl) h0
  obtain ⟨a1, rfl, rfl, rfl, w1⟩ := open_int Tryd.underlying3 (hval 1 3 v1 rfl rfl) h1
  obtain ⟨a2, rfl, rfl, rfl, w2⟩ := open_int Tryd.underlying3 (hval 2 3 v2 rfl rfl) h2
  clear hA0 hval0
  refine (walk chapSpec hT a0 a1 a2 (okI_wf w0) (okI_wf w1) (okI_wf w2)).mono fun e W' ⟨he, bel⟩ => ?_
  subst he
  exact ⟨_, rfl, _, _, _, [], _, [], hW', trodAll_mk1 (shut_bool Tryd.underlying4 _), (trodAll_cons_mk (shut_int Tryd.underlying3 w0) (trodAll_cons_mk (shut_int Tryd.underlying3 w1) (trodAll_cons_mk (shut_int Tryd.underlying3 w2) trodAll_mk0))), rfl, bel.frame _, fun h => by cases h⟩

theorem over : Rows.chapFreshRow.holds Tryd.pinned (OpenSpec.ofChange Rows.chapFreshSpec) :=
  OpenClaim.holds_of_wide 7 Tryd.f7 rfl rfl rfl rfl rfl rfl rfl ⟨rfl, rfl, rfl, rfl, rfl⟩ rfl rfl rfl rfl rfl (by kernel_rfl) Tryd.func7 (by kernel_rfl)
    (of_decide_eq_true (by kernel_rfl)) (by unfold Func.isWrapper; first | (rw [if_pos (by decide +kernel)]; kernel_rfl) | (rw [if_neg (by decide +kernel)]; exact ⟨rfl, rfl⟩))
    (fun os started H enc _ => lifted os started H enc)

set_option maxRecDepth 100000 in
theorem proved : Rows.ChapFreshCardSaid :=
  Claim7.holds_tied_plain_at .later [] [.data] true (true, "fe2b54f320b46724d36697ff86eea2ee1142ca5255bc475a87788847d3b0ab21") false
    over (fun _ h => by cases h) (by kernel_rfl) (fun _ h => by cases h) chapFresh_row_tie rfl ⟨rfl, rfl⟩ (by kernel_rfl) rfl
    (fun f fn hf hfn => by
      obtain rfl : f = 7 := Option.some.inj ((show Tryd.prog.funcNamed "citadel/citadellaw16.ChapFresh" = some 7 by kernel_rfl).symm.trans hf) |>.symm
      obtain rfl : fn = Tryd.f7 := (Option.some.inj (Tryd.func7.symm.trans hfn)).symm
      exact ⟨by kernel_rfl, fun j t ht => by
        rw [Tryd.params7] at ht
        rcases j with _ | _ | _ | j
        · obtain rfl : t = 3 := by simpa using ht.symm
          exact (show Tryd.prog.wantsStandIn 3 = false by kernel_rfl)
        · obtain rfl : t = 3 := by simpa using ht.symm
          exact (show Tryd.prog.wantsStandIn 3 = false by kernel_rfl)
        · obtain rfl : t = 3 := by simpa using ht.symm
          exact (show Tryd.prog.wantsStandIn 3 = false by kernel_rfl)
        · simp at ht⟩)
    (by kernel_rfl)
end chapFresh
end Go.Proofs.YtccpecajbfpjdaaDoor

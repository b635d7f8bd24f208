/- The contracts of the program's blockBytes and Blocks, and of the iterator that Blocks answers. Conditions: the Data lies in memory. -/
import Derived.Test.YtkibeddfkenlkaaCbTri
namespace Go.Proofs.Ytkibeddfkenlkaa
open Go.ChangeShapes Go.WideShapes Go.ChangeAt Go.RowKit Go.Shelf
set_option linter.unusedVariables false
set_option linter.unusedSimpArgs false
/-- How many blocks a command has. -/
def manyC (x : CmdOf) (n : Nat) : Nat := if (x.k == 1 || x.k == 2) && (checkN x n == 0) then x.m.toNat else 0
theorem check_good {x : CmdOf} {n : Nat} (h : checkN x n = 0) : goodC x n = true := by
  unfold checkN at h
  cases hg : goodC x n
  · rw [hg] at h; simp at h
  · rfl
theorem many_some {x : CmdOf} {n : Nat} (hk : (x.k == 1 || x.k == 2) = true) (h : checkN x n = 0) : manyC x n = x.m.toNat ∧ 0 < x.m ∧ x.m ≤ 16 ∧ 0 ≤ x.b ∧ x.b + x.m ≤ 16 ∧ (x.k = 2 → (n : Int) = 128 * x.m) ∧ (x.k = 1 → n = 0) := by
  have hg := good_iff.1 (check_good h)
  refine ⟨by unfold manyC; rw [hk, h]; rfl, ?_⟩
  unfold checkN at h
  rw [check_good (by unfold checkN; exact h)] at h
  simp only [if_true] at h
  split at h
  · cases h
  · rw [hk] at h
    simp only [Bool.true_and, Bool.not_eq_true'] at h
    split at h
    · cases h
    · rename_i hn
      simp only [Bool.not_eq_false, Bool.and_eq_true, decide_eq_true_eq] at hn
      exact ⟨hn.1, by have := hg.b; omega, hg.b.1, hn.2, fun e => (hg.data.1 e).2, fun e => hg.data.2 (by omega)⟩
theorem many_none {x : CmdOf} {n : Nat} (h : ¬ ((x.k == 1 || x.k == 2) = true ∧ checkN x n = 0)) : manyC x n = 0 := by
  unfold manyC
  split
  · rename_i hc
    simp only [Bool.and_eq_true, beq_iff_eq (a := checkN x n)] at hc
    exact absurd hc h
  · rfl
attribute [local irreducible] cmA checkN errN goodC mk zeroK extF manyC
attribute [local go_sem] Oper.semAt_some
set_option maxRecDepth 100000 in
set_option maxHeartbeats 8000000 in
theorem blockBytes_none {w : World} {q : Option Addr} {n c : Nat} {x : CmdOf} (h : ¬ ((x.k == 1 || x.k == 2) = true ∧ checkN x n = 0)) : Calls Try.prog 36 #[.agg (cmA q n c x)] w fun e w' => e = .returned (.slice none 0 0) ∧ Below w.heap.size w w' := by
  cases hb : (x.k == 1 || x.k == 2)
  · have HB := Lib.hid hb
    clear hb h
    go_enter Try.func36, Try.ntmps36
    go_wp2_with (first
      | (with_reducible show wpList _ _ _ (⟨some 1, Op.box cmT _, _, _, _, none⟩ :: _) _ _
         refine wpList_boxA_of rfl _ rfl (cmA q n c x) (by rfl) ?_
         intro w1 x1 l1 s1
         have X1 := Lib.hid x1
         have L1 := Lib.hid l1
         clear x1 l1 s1)
      | (with_reducible show wpList _ _ _ (⟨_, Op.load cmT _, _, _, _, _⟩ :: _) _ _
         refine wpList_boxA_loadw rowCm _ rfl rfl w.heap.size (cmA q n c x) (cmA_size _ _ _ _) rfl X1.out ?_)
      | (go_at_call 34
         refine hasBlocks_any.mono ?_; rintro e w2 ⟨rfl, l2⟩
         rw [HB.out]
         replace X1 := Lib.hid (X1.out.keep (l2.block _ X1.out.lt))
         replace L1 := Lib.hid (L1.out.trans (l2.mono L1.out.size))
         clear l2)
      | (go_at_call 21
         refine Check_any.mono ?_; rintro e w3 ⟨rfl, l3⟩
         skip
         replace X1 := Lib.hid (X1.out.keep (l3.block _ X1.out.lt))
         replace L1 := Lib.hid (L1.out.trans (l3.mono L1.out.size))
         obtain ⟨c0, c1, c2, c3, c4, c10⟩ := boxCm X1.out
         clear l3))
    go_ret
    exact ⟨rfl, L1.out⟩
  · have HB := Lib.hid hb
    have HC := Lib.hid (errN_not (fun h0 => h ⟨hb, h0⟩))
    clear hb h
    go_enter Try.func36, Try.ntmps36
    go_wp2_with (first
      | (with_reducible show wpList _ _ _ (⟨some 1, Op.box cmT _, _, _, _, none⟩ :: _) _ _
         refine wpList_boxA_of rfl _ rfl (cmA q n c x) (by rfl) ?_
         intro w1 x1 l1 s1
         have X1 := Lib.hid x1
         have L1 := Lib.hid l1
         clear x1 l1 s1)
      | (with_reducible show wpList _ _ _ (⟨_, Op.load cmT _, _, _, _, _⟩ :: _) _ _
         refine wpList_boxA_loadw rowCm _ rfl rfl w.heap.size (cmA q n c x) (cmA_size _ _ _ _) rfl X1.out ?_)
      | (go_at_call 34
         refine hasBlocks_any.mono ?_; rintro e w2 ⟨rfl, l2⟩
         rw [HB.out]
         replace X1 := Lib.hid (X1.out.keep (l2.block _ X1.out.lt))
         replace L1 := Lib.hid (L1.out.trans (l2.mono L1.out.size))
         clear l2)
      | (go_at_call 21
         refine Check_any.mono ?_; rintro e w3 ⟨rfl, l3⟩
         rw [HC.out]
         replace X1 := Lib.hid (X1.out.keep (l3.block _ X1.out.lt))
         replace L1 := Lib.hid (L1.out.trans (l3.mono L1.out.size))
         obtain ⟨c0, c1, c2, c3, c4, c10⟩ := boxCm X1.out
         clear l3))
    go_ret
    exact ⟨rfl, L1.out⟩
set_option maxRecDepth 100000 in
set_option maxHeartbeats 8000000 in
theorem blockBytes_some {w : World} {q : Option Addr} {n c : Nat} {g : Nat → Nat} {x : CmdOf} (hq : BytesAt w q n g) (hk : (x.k == 1 || x.k == 2) = true) (h : checkN x n = 0) (N : Nat) (hN : (N : Int) = 128 * x.m) : Calls Try.prog 36 #[.agg (cmA q n c x)] w fun e w' => ∃ D, e = .returned (.slice (some ⟨D, 0, none⟩) N N) ∧ IntBlk w' D .u8 5 (mk N (extF n g)) ∧ w.heap.size ≤ D ∧ Below w.heap.size w w' := by
  obtain ⟨-, m0, m16, -, -, k2, k1⟩ := many_some hk h
  have HQ := Lib.hid (fun (W : World) (hb : Below w.heap.size w W) => hq.below hb)
  have e3 : IntKind.i64.wrap (128 * x.m) = (N : Int) := by rw [IntWalk.i64_in _ (by omega)]; omega
  have HNN := Lib.hid (show N ≤ 140737488355328 by omega)
  have hnN : n ≤ N := by
    have : x.k = 1 ∨ x.k = 2 := by simpa using hk
    rcases this with e | e
    · have := k1 e; omega
    · have := k2 e; omega
  have HNL := Lib.hid hnN
  have HE := Lib.hid (extF_put n N g)
  have e1 : min (n : Int) (N : Int) = (n : Int) := by omega
  have HB := Lib.hid hk
  have HC := Lib.hid (show errN (checkN x n) = .nilIface by rw [h]; exact errN_zero)
  clear hq hk h m0 m16 k1 k2 hnN hN
  go_enter Try.func36, Try.ntmps36
  go_wp2_with (first
    | (with_reducible show wpList _ _ _ (⟨some 1, Op.box cmT _, _, _, _, none⟩ :: _) _ _
       refine wpList_boxA_of rfl _ rfl (cmA q n c x) (by rfl) ?_
       intro w1 x1 l1 s1
       have X1 := Lib.hid x1
       have L1 := Lib.hid l1
       clear x1 l1 s1)
    | (with_reducible show wpList _ _ _ (⟨_, Op.load cmT _, _, _, _, _⟩ :: _) _ _
       refine wpList_boxA_loadw rowCm _ rfl rfl w.heap.size (cmA q n c x) (cmA_size _ _ _ _) rfl X1.out ?_)
    | (go_at_call 34
       refine hasBlocks_any.mono ?_; rintro e w2 ⟨rfl, l2⟩
       rw [HB.out]
       replace X1 := Lib.hid (X1.out.keep (l2.block _ X1.out.lt))
       replace L1 := Lib.hid (L1.out.trans (l2.mono L1.out.size))
       clear l2)
    | (go_at_call 21
       refine Check_any.mono ?_; rintro e w3 ⟨rfl, l3⟩
       rw [HC.out]
       replace X1 := Lib.hid (X1.out.keep (l3.block _ X1.out.lt))
       replace L1 := Lib.hid (L1.out.trans (l3.mono L1.out.size))
       obtain ⟨c0, c1, c2, c3, c4, c10⟩ := boxCm X1.out
       clear l3)
    | (with_reducible show wpList _ _ _ (⟨_, Op.makeSlice 22 _ _, _, _, _, none⟩ :: _) _ _
       have b1 : Below w3.heap.size w3 (w3.alloc (.cells (cellsOf .u8 (mk N zeroK)) 5)) := (Below.refl _ _).alloc (Nat.le_refl _) _
       have HZ := Lib.hid (IntBlk.new w3 .u8 5 (mk N zeroK))
       have X4 := Lib.hid (X1.out.keep (b1.block _ X1.out.lt))
       have L4 := Lib.hid (L1.out.trans (b1.mono L1.out.size))
       have HW := Lib.hid L1.out.size
       have HP := Lib.hid (HQ.out _ L4.out)
       obtain ⟨c0, c1, c2, c3, c4, c10⟩ := boxCm X4.out
       clear b1 X1 L1
       refine wpList_noughts rfl _ _ rfl N HNN.out rfl rfl ?_
       generalize w3.alloc (.cells (cellsOf .u8 (mk N zeroK)) 5) = w4 at *)
    | (refine wpList_copy_bytes rfl _ _ rfl w3.heap.size 0 N N N zeroK _ rfl q n c (fun _ => rfl) g rfl 5 HZ.out HNL.out (by omega) HP.out ?_
       intro v w5 hr5 hb5 hs5
       have R5 := Lib.hid hr5
       have L5 := Lib.hid (L4.out.trans (hb5.below HW.out L4.out.size))
       clear hr5 hb5 hs5))
  go_ret
  exact ⟨_, rfl, by rw [← HE.out]; exact R5.out, HW.out, L5.out⟩
end Go.Proofs.Ytkibeddfkenlkaa

/- The contracts of citadelref11's Node, Build and Path. Conditions: the package's variable holds the constants; the key has no more than 80,000 bytes; there are sixteen leaves of 32 bytes. -/
import Derived.Test.YtbdldnhpgpjnoaaDoorTrBuildN
import Derived.Test.YtbdldnhpgpjnoaaDoorTrSums
namespace Go.Proofs.YtbdldnhpgpjnoaaDoor
open Go.ChangeShapes Go.WideShapes Go.ChangeAt Go.RowKit
set_option linter.unusedVariables false
theorem treeN_leaf {n : Nat} {g : Nat → Nat} {m : List (List Int)} {i : Nat} (h : 16 ≤ i) : treeN n g m i = tagAt m (i - 16) := treeF_leaf _ _ _ h
theorem treeN_node {n : Nat} {g : Nat → Nat} {m : List (List Int)} {i : Nat} (h : 1 ≤ i) (k : i < 16) : treeN n g m i = nodeV n g (IntKind.u8.wrap (i : Int)) (treeN n g m (2 * i)) (treeN n g m (2 * i + 1)) := treeF_node _ _ _ h k
theorem treeN_zero {n : Nat} {g : Nat → Nat} {m : List (List Int)} : treeN n g m 0 = nought := rfl
attribute [local irreducible] nought sumVal sumC tagAt nodeN nodeV treeN
set_option maxRecDepth 100000 in
set_option maxHeartbeats 4000000 in
theorem refNode_any (kp : Option Addr) (n kc : Nat) (g : Nat → Nat) (hn : n ≤ 80000) (q : Option Addr) (cap : Nat) (m : List (List Int)) (h16 : m.length = 16) (hs : ∀ t ∈ m, IsSum t) : ∀ (d i : Nat), i ≤ 31 → 32 ≤ i + d → ∀ (w : World), KeyAt w kp n kc g → RowsAt 32 sumC w q m →
    Calls Tryd.prog 33 #[.slice kp n kc, .slice q 16 cap, .int .i64 i] w fun e w' => e = .returned (sumVal (treeN n g m i)) ∧ Below w.heap.size w w'
  | 0, i, h, k => by omega
  | d + 1, i, hi, hd => fun w hk hq => by
    have HK := Lib.hid (fun V (h : Below w.heap.size w V) => hk.below h); have HQ := Lib.hid (fun V (h : Below w.heap.size w V) => hq.below h)
    rcases Nat.lt_or_ge i 1 with h1 | h1
    · obtain rfl : i = 0 := by omega
      have TZ := Lib.hid (treeN_zero (n := n) (g := g) (m := m))
      clear hk hq hs h16
      generalize hS : w.heap.size = S at *
      have HS := Lib.hid hS
      clear hS
      go_enter Tryd.func33, Tryd.ntmps33
      go_wp2_with (first
        | (refine wpList_sum_alloc rfl rfl S HS.out ?_; intro w1 hD hb hs1
           have D1 := Lib.hid hD; have B1 := Lib.hid hb; clear hD hb hs1)
        | (refine wpList_sum_build0 rfl rfl ?_)
        | (refine wpList_sum_store rfl _ _ rfl rfl S 0 rfl nought rfl [nought] D1.out (by decide) ?_; intro w2 hD hb hs2
           have D2 := Lib.hid hD; have B2 := Lib.hid (B1.out.trans (hb.below (Nat.le_refl _) (HS.out ▸ B1.out.size))); clear hD hb hs2))
      exact bodyPost_ret (results_sum rfl _ _ S nought rfl D2.out.one) rfl ⟨by rw [TZ.out], B2.out⟩
    rcases Nat.lt_or_ge i 16 with h2 | h2
    · have IH := Lib.hid (fun j (hj : j ≤ 31) (hj2 : 32 ≤ j + d) (W : World) hW1 hW2 => refNode_any kp n kc g hn q cap m h16 hs d j hj hj2 W hW1 hW2)
      have JN := Lib.hid (fun (W : World) hW => refJoin_any kp n kc g hn (i : Int) (treeN n g m (2 * i)) (treeN n g m (2 * i + 1)) (treeN_sum h16 hs (by omega)) (treeN_sum h16 hs (by omega)) W hW)
      have TN := Lib.hid (treeN_node (n := n) (g := g) (m := m) h1 h2)
      have d1 : ¬ ((i : Int) < 1) := by omega
      have d2 : ¬ ((16 : Int) ≤ (i : Int)) := by omega
      have I1 := Lib.hid (IH.out (2 * i) (by omega) (by omega))
      have I2 := Lib.hid (IH.out (2 * i + 1) (by omega) (by omega))
      have f1 : IntKind.i64.wrap (2 * (i : Int)) = ((2 * i : Nat) : Int) := by rw [IntWalk.i64_in _ (by omega)]; omega
      have f2 : IntKind.i64.wrap (((2 * i : Nat) : Int) + 1) = ((2 * i + 1 : Nat) : Int) := by rw [IntWalk.i64_in _ (by omega)]; omega
      have E1 := Lib.hid (show (2 * (i : Int)) = ((2 * i : Nat) : Int) by omega)
      have E2 := Lib.hid (show (2 * (i : Int) + 1) = ((2 * i + 1 : Nat) : Int) by omega)
      clear hk hq hs h16 IH f1 f2
      generalize 2 * i + 1 = b1 at *
      generalize 2 * i = b0 at *
      generalize hS : w.heap.size = S at *
      have HS := Lib.hid hS
      clear hS
      go_enter Tryd.func33, Tryd.ntmps33
      go_wp2_with (first
        | (refine wpList_sum_alloc rfl rfl S HS.out ?_; intro w1 hD hb hs1
           have D1 := Lib.hid hD; have B1 := Lib.hid hb; clear hD hb hs1)
        | (go_at_call 33
           rw [E1.out]
           refine (I1.out w1 (HK.out _ B1.out) (HQ.out _ B1.out)).mono ?_; rintro e w2 ⟨rfl, hb⟩
           have D2 := Lib.hid (D1.out.below hb); have B2 := Lib.hid (B1.out.trans (hb.mono (HS.out ▸ B1.out.size))); clear hb I1 D1 B1)
        | (go_at_call 33
           rw [E2.out]
           refine (I2.out w2 (HK.out _ B2.out) (HQ.out _ B2.out)).mono ?_; rintro e w3 ⟨rfl, hb⟩
           have D3 := Lib.hid (D2.out.below hb); have B3 := Lib.hid (B2.out.trans (hb.mono (HS.out ▸ B2.out.size))); clear hb I2 D2 B2)
        | (go_at_call 29
           refine (JN.out w3 (HK.out _ B3.out)).mono ?_; rintro e w4 ⟨rfl, hb⟩
           have D4 := Lib.hid (D3.out.below hb); have B4 := Lib.hid (B3.out.trans (hb.mono (HS.out ▸ B3.out.size))); clear hb JN D3 B3)
        | (refine wpList_sum_store rfl _ _ rfl rfl S 0 rfl _ rfl [nought] D4.out (by decide) ?_; intro w5 hD hb hs2
           have D5 := Lib.hid hD; have B5 := Lib.hid (B4.out.trans (hb.below (Nat.le_refl _) (HS.out ▸ B4.out.size))); clear hD hb hs2))
      exact bodyPost_ret (results_sum rfl _ _ S _ rfl D5.out.one) rfl ⟨by rw [TN.out], B5.out⟩
    · have TL := Lib.hid (treeN_leaf (n := n) (g := g) (m := m) h2)
      have d1 : ¬ ((i : Int) < 1) := by omega
      have d2 : (16 : Int) ≤ (i : Int) := by omega
      obtain ⟨B, o, rfl, hB, _⟩ := sumsAt_get hq (k := i - 16) (by omega)
      have HG := Lib.hid (fun (W : World) (hb : Below w.heap.size w W) => show W.rangeAt B (o + 32 * (i - 16)) (sumC (tagAt m (i - 16))) from by
        obtain ⟨B', o', e, _, hr⟩ := rows_tag (hq.below hb) (k := i - 16) (by omega)
        cases e; exact hr)
      have HI := Lib.hid (show i - 16 < 16 by omega)
      have E1 := Lib.hid (show ((i : Int) - 16) = ((i - 16 : Nat) : Int) by omega)
      have f1 : wrap64 ((i : Int) - 16) = ((i - 16 : Nat) : Int) := by rw [IntWalk.wrap64_in _ (by omega)]; omega
      clear hk hq hs h16
      generalize i - 16 = j at *
      generalize hS : w.heap.size = S at *
      have HS := Lib.hid hS
      clear hS
      go_enter Tryd.func33, Tryd.ntmps33
      go_wp2_with (first
        | (refine wpList_sum_alloc rfl rfl S HS.out ?_; intro w1 hD hb hs1
           have D1 := Lib.hid hD; have B1 := Lib.hid hb; clear hD hb hs1)
        | (refine wpList_sum_elem rfl _ _ rfl B o 16 cap j rfl (by first | rfl | (show Value.int .i64 _ = _; rw [E1.out]) | (show Value.int .i64 _ = _; rw [f1])) HI.out ?_)
        | (refine wpList_sum_load rfl _ rfl B (o + 32 * j) rfl (tagAt m j) (HG.out w1 B1.out) ?_)
        | (refine wpList_sum_store rfl _ _ rfl rfl S 0 rfl _ rfl [nought] D1.out (by decide) ?_; intro w2 hD hb hs2
           have D2 := Lib.hid hD; have B2 := Lib.hid (B1.out.trans (hb.below (Nat.le_refl _) (HS.out ▸ B1.out.size))); clear hD hb hs2))
      exact bodyPost_ret (results_sum rfl _ _ S _ rfl D2.out.one) rfl ⟨by rw [TL.out], B2.out⟩
end Go.Proofs.YtbdldnhpgpjnoaaDoor

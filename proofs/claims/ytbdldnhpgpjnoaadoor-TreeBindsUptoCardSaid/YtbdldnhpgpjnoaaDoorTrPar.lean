/- The contract of package tree's parent: the tag over a child and the one beside it. Conditions: the package's variable holds the constants; the key has no more than 80,000 bytes; the tree has 32 tags; the child is one of 2 to 31. -/
import Derived.Test.YtbdldnhpgpjnoaaDoorTrTag
import Derived.Test.YtbdldnhpgpjnoaaDoorTrEq
namespace Go.Proofs.YtbdldnhpgpjnoaaDoor
open Go.ChangeShapes Go.WideShapes Go.ChangeAt Go.RowKit
set_option linter.unusedVariables false
/-- The tag over two children at number i. -/
def nodeN (n : Nat) (g : Nat → Nat) (i : Nat) (l r : List Int) : List Int := nodeV n g (IntKind.u8.wrap (i : Int)) l r
theorem nodeN_sum (n : Nat) (g : Nat → Nat) (i : Nat) (l r : List Int) : IsSum (nodeN n g i l r) := nodeV_sum _ _ _ _ _
/-- A tree's tag. -/
def tagAt (l : List (List Int)) (i : Nat) : List Int := l.getD i []
theorem tagAt_sum {l : List (List Int)} (h : ∀ t ∈ l, IsSum t) {i : Nat} (hi : i < l.length) : IsSum (tagAt l i) := by
  unfold tagAt
  rw [List.getD_eq_getElem?_getD, List.getElem?_eq_getElem hi]
  exact h _ (List.getElem_mem hi)
theorem xor_even : ∀ i, i < 32 → i % 2 = 0 → i ^^^ 1 = i + 1 := by decide
theorem xor_odd : ∀ i, i < 32 → i % 2 = 1 → i ^^^ 1 = i - 1 := by decide
attribute [local irreducible] nought tauK nodeV sumVal sumC tagAt
set_option maxRecDepth 100000 in
set_option maxHeartbeats 4000000 in
theorem parent_any (kp : Option Addr) (n kc : Nat) (g : Nat → Nat) (hn : n ≤ 80000) (q : Option Addr) (cap : Nat) (l : List (List Int)) (h32 : l.length = 32) (hs : ∀ t ∈ l, IsSum t) (i : Nat) (h2 : 2 ≤ i) (hi : i < 32) (t : List Int) (ht : IsSum t) (w : World) (hk : KeyAt w kp n kc g) (hq : RowsAt 32 sumC w q l) :
    Calls Tryd.prog 46 #[.slice kp n kc, .slice q 32 cap, .int .i64 i, sumVal t] w fun e w' => e = .returned (sumVal (parF (nodeN n g) (tagAt l) i t)) ∧ Below w.heap.size w w' := by
  have x1 : bits .xor .i64 (i : Int) 1 = ((i ^^^ 1 : Nat) : Int) := bits_xor_i64 (x := i) (y := 1) (by omega) (by omega)
  have HK := Lib.hid (fun (W : World) (hb : Below w.heap.size w W) => hk.below hb)
  have HQ := Lib.hid (fun (W : World) (hb : Below w.heap.size w W) => hq.below hb)
  have hz : i ≠ 0 := by omega
  rcases (show i % 2 = 0 ∨ i % 2 = 1 by omega) with he | he
  · rw [xor_even i hi he] at x1
    obtain ⟨B, o, rfl, hB, _⟩ := sumsAt_get hq (k := i + 1) (by omega)
    have HG := Lib.hid (fun (W : World) (hb : Below w.heap.size w W) => show W.rangeAt B (o + 32 * (i + 1)) (sumC (tagAt l (i + 1))) from by
      obtain ⟨B', o', e, _, hr⟩ := sumsAt_get (hq.below hb) (k := i + 1) (by omega)
      cases e; unfold tagAt; exact hr)
    have ND := Lib.hid (fun (W : World) (hb : Below w.heap.size w W) => Node_any kp n kc g hn ((i / 2 : Nat) : Int) t (tagAt l (i + 1)) ht (tagAt_sum hs (by omega)) W (hk.below hb))
    have HR := Lib.hid (show parF (nodeN n g) (tagAt l) i t = nodeV n g (IntKind.u8.wrap ((i / 2 : Nat) : Int)) t (tagAt l (i + 1)) by unfold parF; rw [if_pos he]; rfl)
    have HL := Lib.hid (show i + 1 < 32 by omega)
    have q1 : IntKind.i64.wrap ((i : Int) / 2) = ((i / 2 : Nat) : Int) := by rw [IntWalk.i64_in _ (by omega)]; omega
    have q2 : IntKind.i64.wrap ((i : Int) % 2) = 0 := by rw [show (i : Int) % 2 = 0 by omega]; rfl
    have q3 : (i : Int) % 2 = 0 := by omega
    have X1 := Lib.hid x1
    clear hk hq hs ht x1
    generalize hS : w.heap.size = S at *
    have HS := Lib.hid hS
    clear hS
    go_enter Tryd.func46, Tryd.ntmps46
    go_wp2_with (first
      | (refine wpList_sum_box rfl _ rfl t rfl S HS.out ?_; intro w1 hL hb hs
         have L1 := Lib.hid hL; have B1 := Lib.hid hb; have S1 := Lib.hid hs; clear hL hb hs)
      | (refine wpList_sum_alloc rfl rfl (S + 1) S1.out ?_; intro w2 hD hb hs
         have L2 := Lib.hid (L1.out.belowM hb (by omega)); have D2 := Lib.hid hD; have B2 := Lib.hid (B1.out.trans (hb.mono (by omega))); have S2 := Lib.hid hs; clear hD hb hs L1 B1)
      | (refine wpList_sum_elem rfl _ _ rfl B o 32 cap (i + 1) rfl (by show Value.int .i64 (bits .xor .i64 (i : Int) 1) = _; rw [X1.out]) HL.out ?_)
      | (refine wpList_sum_load rfl _ rfl B (o + 32 * (i + 1)) rfl (tagAt l (i + 1)) (HG.out w2 B2.out) ?_)
      | (refine wpList_sum_alloc rfl rfl (S + 1 + 1) S2.out ?_; intro w3 hE hb hs
         have L3 := Lib.hid (L2.out.belowM hb (by omega)); have D3 := Lib.hid (D2.out.belowM hb (by omega)); have E3 := Lib.hid hE; have B3 := Lib.hid (B2.out.trans (hb.mono (by omega))); have S3 := Lib.hid hs; clear hE hb hs L2 D2 B2)
      | (refine wpList_sum_store rfl _ _ rfl rfl (S + 1 + 1) 0 rfl (tagAt l (i + 1)) rfl [nought] E3.out (by decide) ?_; intro w4 hE hb hs
         have L4 := Lib.hid (L3.out.but hb (by omega)); have D4 := Lib.hid (D3.out.but hb (by omega)); have E4 := Lib.hid hE; have B4 := Lib.hid (B3.out.trans (hb.below (M := S) (by omega) (by rw [S3.out]; omega))); have S4 := Lib.hid (hs.trans S3.out); clear hE hb hs L3 D3 B3)
      | (refine wpList_sum_load rfl _ rfl S 0 rfl t L4.out.one ?_)
      | (refine wpList_sum_load rfl _ rfl (S + 1 + 1) 0 rfl (tagAt l (i + 1)) E4.out.one ?_)
      | (go_at_call 28
         refine (ND.out w4 B4.out).mono ?_; rintro e w5 ⟨rfl, hb⟩
         have D5 := Lib.hid (D4.out.below hb); have B5 := Lib.hid (B4.out.trans (hb.mono (by rw [S4.out]; omega))); have S5 := Lib.hid hb.size; clear hb L4 D4 E4 B4)
      | (refine wpList_sum_store rfl _ _ rfl rfl (S + 1) 0 rfl _ rfl [nought] D5.out (by decide) ?_; intro w6 hD hb hs
         have D6 := Lib.hid hD; have B6 := Lib.hid (B5.out.trans (hb.below (by omega) (by have := S5.out; rw [S4.out] at this; omega))); clear hD hb hs))
    exact bodyPost_ret (results_sum rfl _ _ (S + 1) _ rfl D6.out.one) rfl ⟨by rw [HR.out, show ((i / 2 : Nat) : Int) = (i : Int) / 2 by omega], B6.out⟩
  · rw [xor_odd i hi he] at x1
    obtain ⟨B, o, rfl, hB, _⟩ := sumsAt_get hq (k := i - 1) (by omega)
    have HG := Lib.hid (fun (W : World) (hb : Below w.heap.size w W) => show W.rangeAt B (o + 32 * (i - 1)) (sumC (tagAt l (i - 1))) from by
      obtain ⟨B', o', e, _, hr⟩ := sumsAt_get (hq.below hb) (k := i - 1) (by omega)
      cases e; unfold tagAt; exact hr)
    have ND := Lib.hid (fun (W : World) (hb : Below w.heap.size w W) => Node_any kp n kc g hn ((i / 2 : Nat) : Int) (tagAt l (i - 1)) t (tagAt_sum hs (by omega)) ht W (hk.below hb))
    have HR := Lib.hid (show parF (nodeN n g) (tagAt l) i t = nodeV n g (IntKind.u8.wrap ((i / 2 : Nat) : Int)) (tagAt l (i - 1)) t by unfold parF; rw [if_neg (by omega)]; rfl)
    have HL := Lib.hid (show i - 1 < 32 by omega)
    have q1 : IntKind.i64.wrap ((i : Int) / 2) = ((i / 2 : Nat) : Int) := by rw [IntWalk.i64_in _ (by omega)]; omega
    have q2 : IntKind.i64.wrap ((i : Int) % 2) = 1 := by rw [show (i : Int) % 2 = 1 by omega]; rfl
    have q3 : (i : Int) % 2 = 1 := by omega
    have X1 := Lib.hid x1
    clear hk hq hs ht x1
    generalize hS : w.heap.size = S at *
    have HS := Lib.hid hS
    clear hS
    go_enter Tryd.func46, Tryd.ntmps46
    go_wp2_with (first
      | (refine wpList_sum_box rfl _ rfl t rfl S HS.out ?_; intro w1 hL hb hs
         have L1 := Lib.hid hL; have B1 := Lib.hid hb; have S1 := Lib.hid hs; clear hL hb hs)
      | (refine wpList_sum_alloc rfl rfl (S + 1) S1.out ?_; intro w2 hD hb hs
         have L2 := Lib.hid (L1.out.belowM hb (by omega)); have D2 := Lib.hid hD; have B2 := Lib.hid (B1.out.trans (hb.mono (by omega))); have S2 := Lib.hid hs; clear hD hb hs L1 B1)
      | (refine wpList_sum_elem rfl _ _ rfl B o 32 cap (i - 1) rfl (by show Value.int .i64 (bits .xor .i64 (i : Int) 1) = _; rw [X1.out]) HL.out ?_)
      | (refine wpList_sum_load rfl _ rfl B (o + 32 * (i - 1)) rfl (tagAt l (i - 1)) (HG.out w2 B2.out) ?_)
      | (refine wpList_sum_alloc rfl rfl (S + 1 + 1) S2.out ?_; intro w3 hE hb hs
         have L3 := Lib.hid (L2.out.belowM hb (by omega)); have D3 := Lib.hid (D2.out.belowM hb (by omega)); have E3 := Lib.hid hE; have B3 := Lib.hid (B2.out.trans (hb.mono (by omega))); have S3 := Lib.hid hs; clear hE hb hs L2 D2 B2)
      | (refine wpList_sum_store rfl _ _ rfl rfl (S + 1 + 1) 0 rfl (tagAt l (i - 1)) rfl [nought] E3.out (by decide) ?_; intro w4 hE hb hs
         have L4 := Lib.hid (L3.out.but hb (by omega)); have D4 := Lib.hid (D3.out.but hb (by omega)); have E4 := Lib.hid hE; have B4 := Lib.hid (B3.out.trans (hb.below (M := S) (by omega) (by rw [S3.out]; omega))); have S4 := Lib.hid (hs.trans S3.out); clear hE hb hs L3 D3 B3)
      | (refine wpList_sum_load rfl _ rfl S 0 rfl t L4.out.one ?_)
      | (refine wpList_sum_load rfl _ rfl (S + 1 + 1) 0 rfl (tagAt l (i - 1)) E4.out.one ?_)
      | (go_at_call 28
         refine (ND.out w4 B4.out).mono ?_; rintro e w5 ⟨rfl, hb⟩
         have D5 := Lib.hid (D4.out.below hb); have B5 := Lib.hid (B4.out.trans (hb.mono (by rw [S4.out]; omega))); have S5 := Lib.hid hb.size; clear hb L4 D4 E4 B4)
      | (refine wpList_sum_store rfl _ _ rfl rfl (S + 1) 0 rfl _ rfl [nought] D5.out (by decide) ?_; intro w6 hD hb hs
         have D6 := Lib.hid hD; have B6 := Lib.hid (B5.out.trans (hb.below (by omega) (by have := S5.out; rw [S4.out] at this; omega))); clear hD hb hs))
    exact bodyPost_ret (results_sum rfl _ _ (S + 1) _ rfl D6.out.one) rfl ⟨by rw [HR.out, show ((i / 2 : Nat) : Int) = (i : Int) / 2 by omega], B6.out⟩
end Go.Proofs.YtbdldnhpgpjnoaaDoor

/- The contracts of citadelref11's Build, Path and Update. Conditions: the package's variable holds the constants; the key has no more than 80,000 bytes; leaves and tags have 32 bytes; blocks 0 to 15. -/
import Derived.Test.YtbdldnhpgpjnoaaDoorTrRef
namespace Go.Proofs.YtbdldnhpgpjnoaaDoor
open Go.ChangeShapes Go.WideShapes Go.ChangeAt Go.RowKit
set_option linter.unusedVariables false
def bT (n : Nat) (g : Nat → Nat) (m : List (List Int)) (k : Nat) : List (List Int) := (List.range k).map (treeN n g m)
theorem bT_len (n : Nat) (g : Nat → Nat) (m : List (List Int)) (k : Nat) : (bT n g m k).length = k := by simp [bT]
theorem bT_next (n : Nat) (g : Nat → Nat) (m : List (List Int)) (k : Nat) : bT n g m (k + 1) = bT n g m k ++ [treeN n g m k] := by unfold bT; rw [List.range_succ, List.map_append]; rfl
theorem bT_end (n : Nat) (g : Nat → Nat) (m : List (List Int)) : bT n g m 32 = treeL n g m := rfl
/-- A path, as the document lists it. -/
def pathL (b k : Nat) : List Int := (List.range k).map fun i => (pn b i : Int)
theorem pathL_len (b k : Nat) : (pathL b k).length = k := by simp [pathL]
theorem pathL_next (b k : Nat) : pathL b (k + 1) = pathL b k ++ [(pn b k : Int)] := by unfold pathL; rw [List.range_succ, List.map_append]; rfl
theorem pathL_at {b k i : Nat} (h : i < k) : (pathL b k).getD i 0 = (pn b i : Int) := by unfold pathL; rw [List.getD_eq_getElem?_getD, List.getElem?_map, List.getElem?_range h]; rfl
theorem OwnL.start {α : Type} {e : TypeId} {sz : Nat} {C : α → List Value} (w : World) (base : Nat) : OwnL e sz C w base w.heap.size (.slice none 0 0) ([] : List α) := .inl ⟨rfl, rfl⟩
attribute [local irreducible] nought sumVal sumC tagAt nodeN nodeV treeN treeL bT pathL pn intC
set_option maxRecDepth 100000 in
set_option maxHeartbeats 4000000 in
theorem refBuild_any (kp : Option Addr) (n kc : Nat) (g : Nat → Nat) (hn : n ≤ 80000) (q : Option Addr) (cap : Nat) (m : List (List Int)) (h16 : m.length = 16) (hs : ∀ t ∈ m, IsSum t) (w : World) (hk : KeyAt w kp n kc g) (hq : RowsAt 32 sumC w q m) :
    Calls Tryd.prog 21 #[.slice kp n kc, .slice q 16 cap] w fun e w' => ∃ p c, e = .returned (.slice p 32 c) ∧ RowsAt 32 sumC w' p (treeL n g m) ∧ Below w.heap.size w w' := by
  have ND := Lib.hid (fun k (hk3 : k < 32) (V : World) (h : Below w.heap.size w V) => refNode_any kp n kc g hn q cap m h16 hs 32 k (by omega) (by omega) V (hk.below h) (hq.below h))
  have B0 := Lib.hid (show bT n g m 0 = [] by unfold bT; rfl)
  have BN := Lib.hid (fun k => bT_next n g m k)
  have BL := Lib.hid (fun k => bT_len n g m k)
  have BE := Lib.hid (bT_end n g m)
  clear hk hq hs hn h16
  generalize hS : w.heap.size = S at *
  have HS := Lib.hid hS
  clear hS
  go_enter Tryd.func21, Tryd.ntmps21
  go_wp2
  go_loopw [5, 6] (fun v5 v6 wr => ∃ k : Nat, k ≤ 32 ∧ v6 = .int .i64 k ∧ OwnL 27 32 sumC wr S wr.heap.size v5 (bT n g m k) ∧ Below S w wr) (fun _ v6 _ => 32 - (intOf v6).toNat)
  case atStart => exact ⟨0, Nat.zero_le _, rfl, by rw [B0.out]; exact OwnL.start _ _, Below.refl _ _⟩
  case round =>
    obtain ⟨k, hk, rfl, ho, hb⟩ := hrel
    have OO := Lib.hid ho; have BB := Lib.hid hb
    clear ho hb
    by_cases hlt : k < 32
    · have f1 : (k : Int) < 32 := by omega
      have HLT := Lib.hid hlt
      have HNX := Lib.hid (BN.out k)
      have HLK := Lib.hid (BL.out k)
      have NDK := Lib.hid (ND.out k hlt wr BB.out)
      clear BN BL hlt
      generalize bT n g m k = L at *
      go_wp2_with (first
        | (go_at_call 33; refine NDK.out.mono ?_; rintro e w2 ⟨rfl, hb⟩
           have B2 := Lib.hid hb; clear hb NDK)
        | (refine wpList_one rfl _ rfl (treeN n g m k) rfl ?_; intro w3 hr hb hs
           have R3 := Lib.hid hr; have B3 := Lib.hid (B2.out.trans (hb.mono B2.out.size)); clear hr hb hs B2)
        | (refine wpList_grow elemSum rfl _ _ rfl S wr.heap.size _ L [treeN n g m k] _ 1 1 rfl rfl rfl (OO.out.below (Nat.le_refl _) B3.out) R3.out (by rw [HLK.out]; have := HLT.out; simp only [List.length_cons, List.length_nil]; omega) (by decide) (Nat.le_trans (HS.out ▸ BB.out.size) B3.out.size) ?_; intro v5 w5 ho hb
           rw [← HNX.out] at ho
           have O5 := Lib.hid ho; have B5 := Lib.hid ((BB.out.trans (B3.out.mono (HS.out ▸ BB.out.size))).trans hb); clear ho hb R3 B3))
      go_roundw
      case rel => exact ⟨k + 1, HLT.out, by go_num, O5.out, B5.out⟩
      case measure => have := HLT.out; simp [intOf]; omega
    · obtain rfl : k = 32 := by omega
      have f1 : ¬ ((32 : Nat) : Int) < 32 := by omega
      have LLK := BL.out 32
      have OO2 := OO.out
      rw [BE.out] at OO2
      obtain ⟨pp, c, rfl, _, _, hr, _⟩ := OO2.rows sumC_len
      have HR := Lib.hid hr
      have e32 : (treeL n g m).length = 32 := treeL_len n g m
      rw [e32]
      clear OO2 hr OO
      go_wp2
      go_ret
      first | exact ⟨pp, ⟨c, rfl⟩, HR.out, BB.out⟩ | exact ⟨pp, c, rfl, HR.out, BB.out⟩
set_option maxRecDepth 100000 in
set_option maxHeartbeats 4000000 in
theorem refPath_any (b : Nat) (hb16 : b < 16) (w : World) :
    Calls Tryd.prog 16 #[.int .i64 b] w fun e w' => ∃ p c, e = .returned (.slice p 5 c) ∧ RowsAt 1 intC w' p (pathL b 5) ∧ (∀ B o, p = some ⟨B, o, none⟩ → w.heap.size ≤ B ∧ o = 0) ∧ Below w.heap.size w w' := by
  have PN := Lib.hid (fun k => pn_next b k)
  have PA := Lib.hid (fun k (hk : k < 5) => pn_all b hb16 k hk)
  have P1 := Lib.hid (pn_one hb16)
  have P0 := Lib.hid (show (16 + (b : Int)) = (pn b 0 : Nat) by rw [pn_zero]; omega)
  have L0 := Lib.hid (show pathL b 0 = [] by unfold pathL; rfl)
  have LN := Lib.hid (fun k => pathL_next b k)
  have LL := Lib.hid (fun k => pathL_len b k)
  have d1 : ¬ ((b : Int) < 0) := by omega
  have d2 : ¬ ((15 : Int) < (b : Int)) := by omega
  have d3 : decide (15 < b) = false := decide_eq_false (by omega)
  generalize hS : w.heap.size = S at *
  have HS := Lib.hid hS
  clear hS
  go_enter Tryd.func16, Tryd.ntmps16
  go_wp2
  clear d1 d2 d3
  go_loopw [3, 4] (fun v3 v4 wr => ∃ k : Nat, k ≤ 5 ∧ v4 = .int .i64 (pn b k : Nat) ∧ OwnL 3 1 intC wr S wr.heap.size v3 (pathL b k) ∧ Below S w wr) (fun _ v4 _ => (intOf v4).toNat)
  case atStart => exact ⟨0, Nat.zero_le _, by rw [← P0.out], by rw [L0.out]; exact OwnL.start _ _, Below.refl _ _⟩
  case round =>
    obtain ⟨k, hk, rfl, ho, hb⟩ := hrel
    have OO := Lib.hid ho; have BB := Lib.hid hb
    clear ho hb
    by_cases hlt : k < 5
    · have HLT := Lib.hid hlt
      have a1 := (PA.out k hlt).1
      have a2 := (PA.out k hlt).2.1
      have HNX := Lib.hid (LN.out k)
      have HLK := Lib.hid (LL.out k)
      have HX := Lib.hid (PN.out k)
      generalize pn b k = p1 at *
      have e1 : decide ((1 : Int) ≤ (p1 : Int)) = true := decide_eq_true (by omega)
      have HQ := Lib.hid (show wrap64 ((p1 : Int) / 2) = (pn b (k + 1) : Nat) from by rw [HX.out, IntWalk.wrap64_in _ (by omega)]; omega)
      have HM := Lib.hid (show pn b (k + 1) < p1 by rw [HX.out]; omega)
      have HA1 := Lib.hid a1
      clear LN LL PA hlt a1 a2
      generalize pathL b k = L at *
      go_wp2_with (first
        | (refine wpList_int1 rfl _ rfl p1 rfl ?_
           have R2 := Lib.hid (rows_int1 wr p1); have B2 := Lib.hid (show Below wr.heap.size wr (wr.alloc (.cells (intC p1).toArray 3)) from (Below.refl _ _).alloc (Nat.le_refl _) _)
           generalize wr.alloc (.cells (intC p1).toArray 3) = w2 at *)
        | (refine wpList_grow elemInt rfl _ _ rfl S wr.heap.size _ L [(p1 : Int)] _ 1 1 rfl rfl rfl (OO.out.below (Nat.le_refl _) B2.out) R2.out (by rw [HLK.out]; have := HLT.out; simp only [List.length_cons, List.length_nil]; omega) (by decide) (Nat.le_trans (HS.out ▸ BB.out.size) B2.out.size) ?_; intro v5 w5 ho hb
           rw [← HNX.out] at ho
           have O5 := Lib.hid ho; have B5 := Lib.hid ((BB.out.trans (B2.out.mono (HS.out ▸ BB.out.size))).trans hb); clear ho hb R2 B2))
      go_roundw
      case rel => exact ⟨k + 1, HLT.out, by rw [HQ.out], O5.out, B5.out⟩
      case measure =>
        rw [HQ.out]
        have h1 := HM.out
        show (Int.toNat _) < (Int.toNat _)
        simp only [intOf, Int.toNat_natCast]
        exact h1
    · obtain rfl : k = 5 := by omega
      have e0 : pn b 5 = 0 := by rw [PN.out, P1.out]
      rw [e0]
      have LLK := LL.out 5
      obtain ⟨pp, c, rfl, _, _, hr, hlo⟩ := OO.out.rows elemInt.len
      have HR := Lib.hid hr
      have HLO := Lib.hid hlo
      rw [LLK]
      clear hr hlo OO
      go_wp2
      go_ret
      first | exact ⟨pp, ⟨c, rfl⟩, HR.out, fun B o e => ⟨(HLO.out B o e).1, (HLO.out B o e).2.2⟩, BB.out⟩ | exact ⟨pp, c, rfl, HR.out, fun B o e => ⟨(HLO.out B o e).1, (HLO.out B o e).2.2⟩, BB.out⟩
theorem refPath_none (b : Int) (h : ¬ (0 ≤ b ∧ b < 16)) (w : World) :
    Calls Tryd.prog 16 #[.int .i64 b] w fun e w' => e = .returned (.slice none 0 0) ∧ w = w' := by
  by_cases h0 : b < 0
  · have d1 : decide (b < 0) = true := decide_eq_true h0
    go_enter Tryd.func16, Tryd.ntmps16
    go_wp2
    go_ret
    exact ⟨rfl, rfl⟩
  · have d1 : decide (b < 0) = false := decide_eq_false h0
    have d2 : decide (15 < b) = true := decide_eq_true (by omega)
    go_enter Tryd.func16, Tryd.ntmps16
    go_wp2
    go_ret
    exact ⟨rfl, rfl⟩
end Go.Proofs.YtbdldnhpgpjnoaaDoor

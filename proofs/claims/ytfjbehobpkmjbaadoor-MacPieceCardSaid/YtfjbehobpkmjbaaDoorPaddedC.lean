/- The iterator of package digest's padded: it hands yield the text's parts one behind the other, then what is put behind the text. Condition: the parts' box and the parts' addresses stand while the caller goes with it. -/
import Derived.Test.YtfjbehobpkmjbaaDoorEnds
import Derived.Test.YtfjbehobpkmjbaaDoorPadC
import Derived.RangeFuncNested
import Derived.RangeFuncBound
import Derived.RangeFuncCalls
import Derived.RangeFuncLeaves
import Derived.Shelf.Abstract
import Derived.Shelf.RegionOpen
import Derived.WalkKit
import Derived.OwnWalkIn
import Derived.TacticsInMore
import Derived.LoopNIn
import Derived.LoopIn
namespace Go.Proofs.YtfjbehobpkmjbaaDoor
open Go.RowKit Go.Shelf
attribute [local go_sem] Oper.semAt_some

/-- How long the first parts are, together. -/
def lenTo (P : Nat → Option Addr × Nat × Nat) : Nat → Nat
  | 0 => 0
  | i + 1 => lenTo P i + (P i).2.1
theorem lenTo_mono (P : Nat → Option Addr × Nat × Nat) {i j : Nat} (h : i ≤ j) : lenTo P i ≤ lenTo P j := by
  induction j with
  | zero => rw [show i = 0 by omega]; exact Nat.le_refl _
  | succ j ih =>
    by_cases e : i = j + 1
    · rw [e]; exact Nat.le_refl _
    · exact Nat.le_trans (ih (by omega)) (Nat.le_add_right _ _)
/-- The parts' addresses lie behind a pointer. -/
def PartsAt (V : World) (q : Option Addr) (np : Nat) (P : Nat → Option Addr × Nat × Nat) : Prop := np = 0 ∨ ∃ B o, q = some ⟨B, o, none⟩ ∧ ∀ i, i < np → V.cell? ⟨B, o + i, none⟩ = some (.slice (P i).1 (P i).2.1 (P i).2.2)
/-- What is handed out in each round. -/
def handed (np : Nat) (P : Nat → Option Addr × Nat × Nat) (base i : Nat) (V : World) (x : Option Addr × Nat × Nat) : Prop :=
  (i < np ∧ x = P i) ∨ (i = np ∧ ∃ D, x = (some ⟨D, 0, none⟩, padL (lenTo P np), padL (lenTo P np)) ∧ base ≤ D ∧ IntBlk V D .u8 5 (mk (padL (lenTo P np)) (padB (lenTo P np))))
theorem effN_nat {n : Nat} (h : n ≤ 1099511627776) : effN (n : Int) = n := by unfold effN; rw [if_neg (by omega)]; omega
attribute [local irreducible] padL padB

set_option maxRecDepth 100000 in
set_option maxHeartbeats 1000000 in
theorem padded_gives (m Bp np cap : Nat) (q : Option Addr) (P : Nat → Option Addr × Nat × Nat) (hnp : np ≤ 1000) (hN : lenTo P np ≤ 1000000) :
    GivesTo Fence.wide m Tryd.prog 47 #[.pointer (some ⟨Bp, 0, none⟩)] (fun x : Option Addr × Nat × Nat => #[.slice x.1 x.2.1 x.2.2]) (handed np P) (np + 1)
      (fun V => V.cell? ⟨Bp, 0, none⟩ = some (.slice q np cap) ∧ PartsAt V q np P) := fun l J Jx W hR hJ hJx hY h0 => by
  refine callsIn_of_wp Tryd.func47 rfl trivial ?_ rfl
  simp only [Tryd.ntmps47, List.size_toArray, List.length_cons, List.length_nil, Nat.reduceAdd, Nat.reduceSub, Array.replicate_succ, Array.replicate_zero, List.push_toArray, List.append_toArray, List.nil_append, List.cons_append]
  obtain ⟨hb0, _⟩ := hR 0 W h0
  have HR := Lib.hid hR
  have HJ := Lib.hid hJ
  have HY := Lib.hid hY
  have H0 := Lib.hid h0
  have HW : Hid (W.heap.size = W.heap.size) := Lib.hid rfl
  clear hR hJ hJx hY h0
  gi_wp2
  gi_loopw [3, 8] (fun v3 v8 wr => ∃ i : Nat, i ≤ np ∧ v3 = .int .i64 (lenTo P i : Nat) ∧ v8 = .int .i64 i ∧ W.heap.size ≤ wr.heap.size ∧ J i wr) (fun _ v8 _ => np - (intOf v8).toNat)
  case atStart => exact ⟨0, by omega, rfl, rfl, Nat.le_refl _, H0.out⟩
  case round =>
    clear H0 hb0
    obtain ⟨i, hi, rfl, rfl, hsz, hj⟩ := hrel
    obtain ⟨_, hpa⟩ := HR.out i wr hj
    have hle := lenTo_mono P hi
    by_cases hlt : i < np
    · have e1 : (i : Int) < np := by omega
      rcases hpa with h0 | ⟨B, o, rfl, hpa⟩
      · omega
      have cP := hpa i hlt
      have hle' := lenTo_mono P (show i + 1 ≤ np by omega)
      have hs : lenTo P (i + 1) = lenTo P i + (P i).2.1 := rfl
      obtain ⟨fn, tmps, assign, body, hy, hRr⟩ := HY.out i wr (P i) (by omega) hsz hj (.inl ⟨hlt, rfl⟩)
      generalize P i = x at *
      obtain ⟨pa, pn, pc⟩ := x
      simp only [] at cP hs hy
      have q1 : wrap64 ((lenTo P i : Nat) + (pn : Int)) = (lenTo P (i + 1) : Nat) := by rw [IntWalk.wrap64_in _ (by omega)]; omega
      have HQ := Lib.hid q1
      have HS := Lib.hid hsz
      clear hpa hj hle hle' hs q1 hsz
      gi_wp2
      refine ⟨(fun h => by cases h), hRr.mono ?_⟩
      rintro e W3 (⟨rfl, hj3, ha3⟩ | ⟨rfl, hx3, _⟩)
      · have H3 := Lib.hid hj3
        have HA := Lib.hid ha3.size
        clear hRr hy hj3 ha3
        gi_wp2
        go_roundw
        case rel => exact ⟨i + 1, by omega, by rw [HQ.out], by go_num, Nat.le_trans HS.out HA.out, H3.out⟩
        case measure => simp [intOf]; omega
      · gi_wp2
        refine bodyPost_ret (results_none rfl _ _ _) rfl ?_
        exact ⟨⟨_, rfl⟩, .inr hx3⟩
    · have e : i = np := by omega
      have e1 : ¬ (i : Int) < np := by omega
      have he : Hid (effN (lenTo P i : Nat) = lenTo P np) := Lib.hid (by rw [effN_nat (by omega), e])
      have HS := Lib.hid hsz
      have H0 := Lib.hid hj
      have HE := Lib.hid e
      clear hpa hj hle hsz e hlt
      gi_wp2
      refine ⟨trivial, (fun h => by cases h), ?_⟩
      refine (callsIn_wide.2 (Pad_any _ _)).mono ?_
      rintro e w2 ⟨rfl, hblk, hb⟩
      rw [he.out] at hblk
      have J2 := HJ.out i wr w2 H0.out (hb.mono HS.out)
      obtain ⟨fn, tmps, assign, body, hy, hRr⟩ := HY.out i w2 (some ⟨wr.heap.size, 0, none⟩, padL (lenTo P np), padL (lenTo P np)) (by have := HE.out; omega) (Nat.le_trans HS.out hb.size) J2 (.inr ⟨HE.out, _, rfl, HS.out, hblk⟩)
      simp only [] at hy
      rw [he.out]
      have hle : i + 1 = np + 1 := by rw [HE.out]
      rw [hle] at hRr
      have HJ2 := Lib.hid J2
      clear hblk hb J2 hle
      gi_wp2
      refine ⟨(fun h => by cases h), hRr.mono ?_⟩
      rintro e W3 (⟨rfl, hj3, ha3⟩ | ⟨rfl, hx3, _⟩)
      · gi_wp2
        go_end0
        exact ⟨⟨_, rfl⟩, .inl hj3⟩
      · gi_wp2
        go_end0
        exact ⟨⟨_, rfl⟩, .inr hx3⟩
end Go.Proofs.YtfjbehobpkmjbaaDoor

/- The iterator of package field's Powers: in round i it hands yield the byte's i-th power, for ever, as long as the caller goes with it. Condition: the caller's invariant bounds the rounds' number and keeps the byte's box. -/
import Derived.Test.YtilfjmpoiiepkaaFieldC
import Derived.Test.YtilfjmpoiiepkaaNumB
import Derived.Test.YtilfjmpoiiepkaaRange
import Derived.Test.YtilfjmpoiiepkaaBlk
import Derived.RangeFuncNested
import Derived.RangeFuncBound
import Derived.RangeFuncCalls
import Derived.RangeFuncLeaves
import Derived.Shelf.Abstract
import Derived.Shelf.RegionOpen
import Derived.WalkKit
import Derived.OwnWalkIn
import Derived.TacticsInMore
import Derived.LoopNIn
import Derived.LoopIn
import Derived.Deep.LoopGhost
namespace Go.Proofs.Ytilfjmpoiiepkaa
open Go.RowKit Go.Shelf
attribute [local go_sem] Oper.semAt_some

/-- A byte's power. -/
def powI (b : Int) : Nat → Int
  | 0 => 1
  | i + 1 => mulI (powI b i) b
theorem powI_bd {b : Int} : ∀ i, 0 ≤ powI b i ∧ powI b i ≤ 255
  | 0 => by unfold powI; omega
  | i + 1 => mulI_bd (powI_bd i).2
/-- k rounds at most are still to come. -/
def toCome (M : Nat) (b : Int) (J : Nat → World → Prop) (v : Value) (w : World) (k : Nat) : Prop := ∃ i, i + k = M + 1 ∧ v = .int .u8 (powI b i) ∧ J i w

set_option maxRecDepth 100000 in
set_option maxHeartbeats 1000000 in
theorem powers_told (m : Nat) (Bb M : Nat) (b : Int) (b0 : 0 ≤ b) (b1 : b ≤ 255) (I : Nat → World → Prop) (hM : ∀ i W, I i W → i ≤ M) (hb : ∀ i W, I i W → W.cell? ⟨Bb, 0, none⟩ = some (.int .u8 b)) :
    ToldBy Fence.wide m Try.prog 61 #[.pointer (some ⟨Bb, 0, none⟩)] (fun i => #[.int .u8 (powI b i)]) I := fun l J Jx W hJI hY h0 => by
  refine callsIn_of_wp Try.func61 rfl trivial ?_ rfl
  simp only [Try.ntmps61, List.size_toArray, List.length_cons, List.length_nil, Nat.reduceAdd, Nat.reduceSub, Array.replicate_succ, Array.replicate_zero, List.push_toArray, List.append_toArray, List.nil_append, List.cons_append]
  have HJ := Lib.hid hJI
  have HY := Lib.hid hY
  have HM := Lib.hid hM
  have HB := Lib.hid hb
  clear hJI hY hM hb
  gi_wp2
  gi_loopw [3] (fun v wr => ∃ k, toCome M b J v wr k) (fun v wr => leastOf (toCome M b J v wr))
  case atStart => exact ⟨M + 1, 0, by omega, rfl, h0⟩
  case round =>
    obtain ⟨i, hik, rfl, hJ⟩ := (leastOf_spec hrel).1
    clear hrel
    have HIK := Lib.hid hik
    have HJ0 := Lib.hid hJ
    have pb := powI_bd (b := b) i
    clear hik
    obtain ⟨fn, tmps, assign, body, hy, hR⟩ := HY.out i wr hJ
    clear hJ
    gi_wp2
    refine ⟨(fun h => by cases h), hR.mono ?_⟩
    rintro e W3 (⟨rfl, hJ3⟩ | ⟨rfl, hx3⟩)
    · have hM3 := HM.out _ _ (HJ.out _ _ hJ3)
      have hB3 := HB.out _ _ (HJ.out _ _ hJ3)
      have H3 := Lib.hid hJ3
      clear hR hy hJ3
      gi_wp2
      refine ⟨trivial, (fun h => by cases h), ?_⟩
      refine (callsIn_wide.2 (Mul_any _ _ pb.1 pb.2 b0 b1 _)).mono ?_
      rintro e w' ⟨rfl, rfl⟩
      gi_wp2
      go_roundw
      case rel => exact ⟨M - i, i + 1, by omega, rfl, H3.out⟩
      case measure =>
        have hp : toCome M b J (.int .u8 (powI b (i + 1))) W3 (M - i) := ⟨i + 1, by omega, rfl, H3.out⟩
        have h1 := (leastOf_spec ⟨_, hp⟩).2 _ hp
        have h2 := HIK.out
        exact Nat.lt_of_le_of_lt h1 (by show M - i < leastOf (toCome M b J (.int .u8 (powI b i)) wr); omega)
    · gi_wp2
      go_end0
      exact ⟨⟨_, rfl⟩, hx3⟩
end Go.Proofs.Ytilfjmpoiiepkaa

/- The iterator of package tree's Path: it hands yield the numbers of a block's path. Condition: the box with the block's number stands while the caller goes with it. -/
import Derived.Test.YtbdldnhpgpjnoaaDoorTrText
import Derived.WalkMore
namespace Go.Proofs.YtbdldnhpgpjnoaaDoor
open Go.ChangeShapes Go.WideShapes Go.ChangeAt Go.RowKit Go.Shelf
attribute [local go_sem] Oper.semAt_some
set_option linter.unusedVariables false
theorem isBlock_yes (b : Nat) (hb : b < 16) (w : World) : Calls Tryd.prog 31 #[.int .i64 b] w fun e w' => e = .returned (.bool true) ∧ w = w' := by
  have d1 : decide ((0 : Int) ≤ (b : Int)) = true := decide_eq_true (by omega)
  have d2 : decide ((b : Int) < 16) = true := decide_eq_true (by omega)
  have d3 : decide (b < 16) = true := decide_eq_true hb
  go_enter Tryd.func31, Tryd.ntmps31
  go_wp2
  go_ret
  exact ⟨by first | rfl | simp, rfl⟩
theorem isBlock_no (b : Int) (hb : ¬ (0 ≤ b ∧ b < 16)) (w : World) : Calls Tryd.prog 31 #[.int .i64 b] w fun e w' => e = .returned (.bool false) ∧ w = w' := by
  by_cases h : 0 ≤ b
  · have d1 : decide (0 ≤ b) = true := decide_eq_true h
    have d2 : decide (b < 16) = false := decide_eq_false (fun k => hb ⟨h, k⟩)
    go_enter Tryd.func31, Tryd.ntmps31
    go_wp2
    go_ret
    exact ⟨by first | rfl | simp, rfl⟩
  · have d1 : decide (0 ≤ b) = false := decide_eq_false h
    go_enter Tryd.func31, Tryd.ntmps31
    go_wp2
    go_ret
    exact ⟨by first | rfl | (simp; omega), rfl⟩
theorem Path_any (b : Int) (w : World) : Calls Tryd.prog 17 #[.int .i64 b] w fun e w' => e = .returned (.func (.func 30) #[] #[.pointer (some ⟨w.heap.size, 0, none⟩)]) ∧ w.alloc (.cells #[.int .i64 b] 3) = w' := by
  go_enter Tryd.func17, Tryd.ntmps17
  go_wp2
  go_ret
  exact ⟨rfl, rfl⟩
/-- What the iterator reads; what it hands over. -/
def PtR (Bx : Nat) (b : Int) (V : World) : Prop := V.cell? ⟨Bx, 0, none⟩ = some (.int .i64 b)
def ptE (b : Nat) (k : Nat) : Array Value := #[.int .i64 (pn b k : Nat)]
attribute [local irreducible] pn
set_option maxRecDepth 100000 in
set_option maxHeartbeats 1000000 in
theorem path_gives (m Bx b : Nat) (hb : b < 16) :
    GivesTo Fence.wide m Tryd.prog 30 #[.pointer (some ⟨Bx, 0, none⟩)] (ptE b) (fun _ i _ x => x = i) 5 (PtR Bx b) := fun l J Jx W hR hJ hJx hY h0 => by
  refine callsIn_of_wp Tryd.func30 rfl trivial ?_ rfl
  simp only [Tryd.ntmps30, List.size_toArray, List.length_cons, List.length_nil, Nat.reduceAdd, Nat.reduceSub, Array.replicate_succ, Array.replicate_zero, List.push_toArray, List.append_toArray, List.nil_append, List.cons_append]
  have c0 := hR 0 W h0
  unfold PtR at c0
  have HPN := Lib.hid (fun k => pn_next b k)
  have HPA := Lib.hid (fun k (hk : k < 5) => pn_all b hb k hk)
  have HP1 := Lib.hid (pn_one hb)
  have HP0 := Lib.hid (show (16 + (b : Int)) = (pn b 0 : Nat) by rw [pn_zero]; omega)
  have HIB := Lib.hid (fun V => isBlock_yes b hb V)
  have HJ := Lib.hid hJ; have HY := Lib.hid hY; have H0 := Lib.hid h0
  clear hR hJ hJx hY h0
  refine wpIn_wide.2 ?_
  go_wp2_with (first
    | (go_at_call 31; refine (HIB.out _).mono ?_; rintro e w1 ⟨rfl, rfl⟩))
  refine (wpIn_wide (n := m)).1 ?_
  gi_loopw [3] (fun v3 wr => ∃ k : Nat, k ≤ 5 ∧ v3 = .int .i64 (pn b k : Nat) ∧ W.heap.size ≤ wr.heap.size ∧ J k wr) (fun v3 _ => (intOf v3).toNat)
  case atStart => exact ⟨0, by omega, by rw [← HP0.out], Nat.le_refl _, H0.out⟩
  case round =>
    obtain ⟨k, hk, rfl, hs, hj⟩ := hrel
    clear H0 HP0
    by_cases hlt : k < 5
    · obtain ⟨fn, tmps, assign, body, hy, hRr⟩ := HY.out k wr k hlt hs hj rfl
      unfold ptE at hy
      have HS := Lib.hid hs; have HJ1 := Lib.hid hj
      have NX := Lib.hid (show k + 1 ≤ 5 from hlt)
      have a1 := (HPA.out k hlt).1
      have a2 := (HPA.out k hlt).2.1
      have HX := Lib.hid (HPN.out k)
      generalize pn b k = p1 at *
      have e1 : decide ((1 : Int) ≤ (p1 : Int)) = true := decide_eq_true (by omega)
      have HQ := Lib.hid (show wrap64 ((p1 : Int) / 2) = (pn b (k + 1) : Nat) from by rw [HX.out, IntWalk.wrap64_in _ (by omega)]; omega)
      have HM := Lib.hid (show pn b (k + 1) < p1 by rw [HX.out]; omega)
      clear hs hj a1 a2
      gi_wp2
      refine ⟨(fun h => by cases h), hRr.mono ?_⟩
      rintro e W3 (⟨rfl, hj3, ha3⟩ | ⟨rfl, hx3, _⟩)
      · have H3 := Lib.hid hj3
        have S3 := Lib.hid (Nat.le_trans HS.out ha3.size)
        clear hRr hy hj3 ha3 HS HJ1
        gi_wp2
        go_roundw
        case rel => exact ⟨k + 1, NX.out, by rw [HQ.out], S3.out, H3.out⟩
        case measure =>
          rw [HQ.out]
          have h1 := HM.out
          show (Int.toNat _) < (Int.toNat _)
          simp only [intOf, Int.toNat_natCast]
          exact h1
      · have HX := Lib.hid hx3
        clear hRr hy hx3 HS HJ1
        gi_wp2
        exact bodyPost_ret (results_none rfl _ _ _) rfl ⟨⟨_, rfl⟩, .inr HX.out⟩
    · obtain rfl : k = 5 := by omega
      have HS := Lib.hid hs; have HJ1 := Lib.hid hj
      have e0 : pn b 5 = 0 := by rw [HPN.out, HP1.out]
      rw [e0]
      clear hs hj
      gi_wp2
      refine bodyPost_end (results_none rfl _ _ _) rfl ?_
      exact ⟨⟨_, rfl⟩, .inl HJ1.out⟩
end Go.Proofs.YtbdldnhpgpjnoaaDoor

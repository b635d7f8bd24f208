/- The iterator of package wrap's Steps: it hands yield the steps' numbers and the words' numbers, six times n pairs; none, if n isn't from 2 to 64. Condition: the number's box stands while the caller goes with it. -/
import Derived.Test.YtghdeedglekphaaWrSmall
import Derived.WalkMore
namespace Go.Proofs.Ytghdeedglekphaa
open Go.ChangeShapes Go.WideShapes Go.ChangeAt Go.RowKit Go.Shelf
attribute [local go_sem] Oper.semAt_some
set_option linter.unusedVariables false

theorem Steps_any (z : Int) (w : World) : Calls Try.prog 23 #[.int .i64 z] w fun e w' => e = .returned (.func (.func 33) #[] #[.pointer (some ⟨w.heap.size, 0, none⟩)]) ∧ w.alloc (.cells #[.int .i64 z] 3) = w' := by
  go_enter Try.func23, Try.ntmps23
  go_wp2
  go_ret
  exact ⟨rfl, rfl⟩
/-- What the iterator reads. -/
def StR (Bn : Nat) (z : Int) (V : World) : Prop := V.cell? ⟨Bn, 0, none⟩ = some (.int .i64 z)
/-- A step's number and its word's number, from 1 on. -/
def stE (n : Nat) (x : Nat) : Array Value := #[.int .i64 ((x : Int) + 1), .int .i64 (((x % n : Nat) : Int) + 1)]
theorem roundIn_any7 {n n' l lr : Nat} {f : FuncId} {tmps : Array Value} {asg bd : Code} {w : World} {R : Ending → World → Prop} (h : RoundIn Fence.wide n Try.prog lr f tmps asg bd w R) : RoundIn (Fence.wide.inRound l) n' Try.prog lr f tmps asg bd w R := ⟨h.1, fun c cs _ => h.2 c cs (room_wide _)⟩

set_option maxRecDepth 100000 in
set_option maxHeartbeats 1000000 in
theorem steps_none (m Bn : Nat) (z : Int) (hz : z < 2 ∨ 64 < z) :
    GivesTo Fence.wide m Try.prog 33 #[.pointer (some ⟨Bn, 0, none⟩)] (stE 1) (fun _ i _ x => x = i) 0 (StR Bn z) := fun l J Jx W hR hJ hJx hY h0 => by
  refine callsIn_of_wp Try.func33 rfl trivial ?_ rfl
  simp only [Try.ntmps33, List.size_toArray, List.length_cons, List.length_nil, Nat.reduceAdd, Nat.reduceSub, Array.replicate_succ, Array.replicate_zero, List.push_toArray, List.append_toArray, List.nil_append, List.cons_append]
  have hb : W.cell? ⟨Bn, 0, none⟩ = some (.int .i64 z) := hR 0 W h0
  have GC := Lib.hid (fun V => good_no z hz V)
  have H0 := Lib.hid h0
  clear hR hJ hJx hY h0 hz
  refine wpIn_wide.2 ?_
  go_wp2
  go_step3
  go_wp2_with (first
    | (go_at_call 32; refine (GC.out _).mono ?_; rintro e w2 ⟨rfl, rfl⟩; clear GC))
  rw [Exit.noGoto_ret]
  exact bodyPost_ret (results_none rfl _ _ _) rfl ⟨⟨_, rfl⟩, .inl H0.out⟩
set_option maxRecDepth 100000 in
set_option maxHeartbeats 1000000 in
theorem steps_gives (m Bn n : Nat) (h2 : 2 ≤ n) (h64 : n ≤ 64) :
    GivesTo Fence.wide m Try.prog 33 #[.pointer (some ⟨Bn, 0, none⟩)] (stE n) (fun _ i _ x => x = i) (6 * n) (StR Bn n) := fun l J Jx W hR hJ hJx hY h0 => by
  refine callsIn_of_wp Try.func33 rfl trivial ?_ rfl
  simp only [Try.ntmps33, List.size_toArray, List.length_cons, List.length_nil, Nat.reduceAdd, Nat.reduceSub, Array.replicate_succ, Array.replicate_zero, List.push_toArray, List.append_toArray, List.nil_append, List.cons_append]
  have hb : W.cell? ⟨Bn, 0, none⟩ = some (.int .i64 n) := hR 0 W h0
  have GC := Lib.hid (fun V => good_yes n h2 h64 V)
  have HR := Lib.hid hR; have HJ := Lib.hid hJ; have HY := Lib.hid hY; have H0 := Lib.hid h0
  have H2 := Lib.hid h2
  clear hR hJ hJx hY h0 h2
  refine wpIn_wide.2 ?_
  go_wp2
  go_step3
  go_wp2_with (first
    | (go_at_call 32; refine (GC.out _).mono ?_; rintro e w2 ⟨rfl, rfl⟩; clear GC))
  go_step3
  go_wp2
  refine (wpIn_wide (n := m)).1 ?_
  gi_loopw [8, 3] (fun v8 v3 wr => ∃ j : Nat, j ≤ 6 ∧ v8 = .int .i64 j ∧ v3 = .int .i64 ((j * n : Nat) : Int) ∧ W.heap.size ≤ wr.heap.size ∧ J (j * n) wr) (fun v8 _ _ => 6 - (intOf v8).toNat)
  case atStart => exact ⟨0, by omega, rfl, by rw [Nat.zero_mul]; rfl, Nat.le_refl _, by rw [Nat.zero_mul]; exact H0.out⟩
  case round =>
    obtain ⟨j, hj6, rfl, rfl, hs, hj⟩ := hrel
    clear H0
    by_cases hlt : j < 6
    · have e1 : (j : Int) < 6 := by omega
      have hbj : wr.cell? ⟨Bn, 0, none⟩ = some (.int .i64 n) := HR.out _ wr hj
      have HS := Lib.hid hs; have HJ1 := Lib.hid hj
      clear hs hj
      gi_wp2
      gi_loopw [11, 3] (fun v11 v3 w2 => ∃ i : Nat, i ≤ n ∧ v11 = .int .i64 i ∧ v3 = .int .i64 ((j * n + i : Nat) : Int) ∧ W.heap.size ≤ w2.heap.size ∧ J (j * n + i) w2) (fun v11 _ _ => n - (intOf v11).toNat)
      case atStart => exact ⟨0, by omega, rfl, rfl, HS.out, HJ1.out⟩
      case round =>
        obtain ⟨i, hin, rfl, rfl, hs, hj⟩ := hrel
        clear HS HJ1
        have hmul : j * n ≤ 5 * 64 := Nat.mul_le_mul (by omega) h64
        by_cases hi : i < n
        · have e2 : (i : Int) < (n : Int) := by omega
          have hlt6 : j * n + i < 6 * n := by
            have := Nat.mul_le_mul_right n (show j ≤ 5 by omega)
            omega
          have hmod : (j * n + i) % n = i := by rw [Nat.mul_comm, Nat.mul_add_mod, Nat.mod_eq_of_lt hi]
          obtain ⟨fn, tmps, assign, body, hy, hRr⟩ := HY.out (j * n + i) _ (j * n + i) hlt6 hs hj rfl
          have HS := Lib.hid hs; have HJ1 := Lib.hid hj
          clear hs hj
          unfold stE at hy
          rw [hmod] at hy
          generalize hx : j * n + i = x at *
          have q1 : IntKind.i64.wrap ((x : Int) + 1) = (x : Int) + 1 := IntWalk.i64_in _ (by omega)
          have q2 : IntKind.i64.wrap ((i : Int) + 1) = (i : Int) + 1 := IntWalk.i64_in _ (by omega)
          clear hmul
          gi_wp2
          refine ⟨(fun h => by cases h), hRr.mono ?_⟩
          rintro e W3 (⟨rfl, hj3, ha3⟩ | ⟨rfl, hx3, _⟩)
          · have H3 := Lib.hid hj3
            have S3 := Lib.hid (Nat.le_trans HS.out ha3.size)
            clear hRr hy hj3 ha3 HS HJ1
            gi_wp2
            go_roundw
            case rel => exact ⟨i + 1, by omega, by go_num, by rw [show j * n + (i + 1) = x + 1 by omega]; rfl, S3.out, by rw [show j * n + (i + 1) = x + 1 by omega]; exact H3.out⟩
            case measure => simp [intOf]; omega
          · have HX := Lib.hid hx3
            clear hRr hy hx3 HS HJ1
            gi_wp2
            rw [Exit.noGoto_normal]
            refine bodyPost_end (results_none rfl _ _ _) rfl ?_
            exact ⟨⟨_, rfl⟩, .inr HX.out⟩
        · obtain rfl : i = n := by omega
          have HS := Lib.hid hs; have HJ1 := Lib.hid hj
          clear hs hj hmul
          gi_wp2
          go_roundw
          case rel => exact ⟨j + 1, by omega, by go_num, by rw [Nat.add_mul, Nat.one_mul], HS.out, by rw [Nat.add_mul, Nat.one_mul]; exact HJ1.out⟩
          case measure => simp [intOf]; omega
    · obtain rfl : j = 6 := by omega
      gi_wp2
      rw [Exit.noGoto_normal]
      refine bodyPost_end (results_none rfl _ _ _) rfl ?_
      exact ⟨⟨_, rfl⟩, .inl hj⟩
end Go.Proofs.Ytghdeedglekphaa

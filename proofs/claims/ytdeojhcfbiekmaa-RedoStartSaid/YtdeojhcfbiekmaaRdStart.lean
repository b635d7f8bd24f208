/- The contract of package redo's Start and of the document's: what a start does. Condition: the counts are of 64 bits. -/
import Derived.Test.YtdeojhcfbiekmaaPlBase
namespace Go.Proofs.Ytdeojhcfbiekmaa
open Go.ChangeShapes Go.WideShapes Go.ChangeAt Go.RowKit
set_option linter.unusedVariables false
def startZ (c h l : Int) : Int := if c < 0 ∨ 4611686018427387904 < c then 4 else if h = c then (if l = c + 1 then 3 else if l = c then 2 else 1) else if l = c ∧ (h < 0 ∨ h + 1 = c) then 2 else 4
set_option maxRecDepth 100000 in
set_option maxHeartbeats 4000000 in
theorem Start_any (c h l : Int) (k1 : -9223372036854775808 ≤ h) (k2 : h ≤ 9223372036854775807) (w : World) : Calls Try.prog 5 #[.int .i64 c, .int .i64 h, .int .i64 l] w fun e w' => e = .returned (.int .i64 (startZ c h l)) ∧ w = w' := by
  by_cases a : c < 0
  · have a1 : decide (c < 0) = true := decide_eq_true a
    have r : startZ c h l = 4 := if_pos (.inl a)
    go_enter Try.func5, Try.ntmps5
    go_wp2
    go_ret
    exact ⟨by first | rfl | (rw [r]; rfl), rfl⟩
  have a1 : decide (c < 0) = false := decide_eq_false a
  by_cases b : 4611686018427387904 < c
  · have b1 : decide (4611686018427387904 < c) = true := decide_eq_true b
    have r : startZ c h l = 4 := if_pos (.inr b)
    go_enter Try.func5, Try.ntmps5
    go_wp2
    go_ret
    exact ⟨by first | rfl | (rw [r]; rfl), rfl⟩
  have b1 : decide (4611686018427387904 < c) = false := decide_eq_false b
  have w1 : wrap64 (c + 1) = c + 1 := IntWalk.wrap64_in _ (by omega)
  have w2 : wrap64 (c - 1) = c - 1 := IntWalk.wrap64_in _ (by omega)
  have w3 : IntKind.i64.wrap (c + 1) = c + 1 := IntWalk.i64_in _ (by omega)
  have w4 : IntKind.i64.wrap (c - 1) = c - 1 := IntWalk.i64_in _ (by omega)
  have r0 : startZ c h l = if h = c then (if l = c + 1 then 3 else if l = c then 2 else 1) else if l = c ∧ (h < 0 ∨ h + 1 = c) then 2 else 4 := if_neg (by omega)
  by_cases e : h = c
  · have e1 : decide (h = c) = true := decide_eq_true e
    have e2 : (h == c) = true := by simpa using e
    have e3 : decide (h ≠ c) = false := by simpa using e
    have e4 : (h != c) = false := by simpa using e
    by_cases f : l = c + 1
    · have f1 : decide (l = c + 1) = true := decide_eq_true f
      have f2 : (l == c + 1) = true := by simpa using f
      have f3 : decide (l ≠ c + 1) = false := by simpa using f
      have f4 : (l != c + 1) = false := by simpa using f
      have r : startZ c h l = 3 := by rw [r0, if_pos e, if_pos f]
      clear a b e f r0
      go_enter Try.func5, Try.ntmps5
      go_wp2
      go_ret
      exact ⟨by first | rfl | (rw [r]; rfl), rfl⟩
    have f1 : decide (l = c + 1) = false := decide_eq_false f
    have f2 : (l == c + 1) = false := by simpa using f
    have f3 : decide (l ≠ c + 1) = true := by simpa using f
    have f4 : (l != c + 1) = true := by simpa using f
    by_cases g : l = c
    · have g1 : decide (l = c) = true := decide_eq_true g
      have g2 : (l == c) = true := by simpa using g
      have g3 : decide (l ≠ c) = false := by simpa using g
      have g4 : (l != c) = false := by simpa using g
      have r : startZ c h l = 2 := by rw [r0, if_pos e, if_neg f, if_pos g]
      clear a b e f g r0
      go_enter Try.func5, Try.ntmps5
      go_wp2
      go_ret
      exact ⟨by first | rfl | (rw [r]; rfl), rfl⟩
    have g1 : decide (l = c) = false := decide_eq_false g
    have g2 : (l == c) = false := by simpa using g
    have g3 : decide (l ≠ c) = true := by simpa using g
    have g4 : (l != c) = true := by simpa using g
    have r : startZ c h l = 1 := by rw [r0, if_pos e, if_neg f, if_neg g]
    clear a b e f g r0
    go_enter Try.func5, Try.ntmps5
    go_wp2
    go_ret
    exact ⟨by first | rfl | (rw [r]; rfl), rfl⟩
  have e1 : decide (h = c) = false := decide_eq_false e
  have e2 : (h == c) = false := by simpa using e
  have e3 : decide (h ≠ c) = true := by simpa using e
  have e4 : (h != c) = true := by simpa using e
  by_cases g : l = c
  · have g1 : decide (l = c) = true := decide_eq_true g
    have g2 : (l == c) = true := by simpa using g
    have g3 : decide (l ≠ c) = false := by simpa using g
    have g4 : (l != c) = false := by simpa using g
    by_cases n : h < 0
    · have n1 : decide (h < 0) = true := decide_eq_true n
      have r : startZ c h l = 2 := by rw [r0, if_neg e, if_pos ⟨g, .inl n⟩]
      by_cases m : h = c - 1
      · have m1 : decide (h = c - 1) = true := decide_eq_true m
        have m2 : (h == c - 1) = true := by simpa using m
        have m3 : decide (h ≠ c - 1) = false := by simpa using m
        have m4 : (h != c - 1) = false := by simpa using m
        clear a b e g n m r0
        go_enter Try.func5, Try.ntmps5
        go_wp2
        go_ret
        exact ⟨by first | rfl | (rw [r]; rfl), rfl⟩
      have m1 : decide (h = c - 1) = false := decide_eq_false m
      have m2 : (h == c - 1) = false := by simpa using m
      have m3 : decide (h ≠ c - 1) = true := by simpa using m
      have m4 : (h != c - 1) = true := by simpa using m
      clear a b e g n m r0
      go_enter Try.func5, Try.ntmps5
      go_wp2
      go_ret
      exact ⟨by first | rfl | (rw [r]; rfl), rfl⟩
    have n1 : decide (h < 0) = false := decide_eq_false n
    have hc : 0 ≤ h := by omega
    by_cases m : h = c - 1
    · have m1 : decide (h = c - 1) = true := decide_eq_true m
      have m2 : (h == c - 1) = true := by simpa using m
      have m3 : decide (h ≠ c - 1) = false := by simpa using m
      have m4 : (h != c - 1) = false := by simpa using m
      have o : h + 1 = c := by omega
      have o1 : decide (h + 1 = c) = true := decide_eq_true o
      have o2 : (h + 1 == c) = true := by simpa using o
      have o3 : decide (h + 1 ≠ c) = false := by simpa using o
      have o4 : (h + 1 != c) = false := by simpa using o
      have v1 : wrap64 (h + 1) = h + 1 := IntWalk.wrap64_in _ (by omega)
      have v2 : IntKind.i64.wrap (h + 1) = h + 1 := IntWalk.i64_in _ (by omega)
      have r : startZ c h l = 2 := by rw [r0, if_neg e, if_pos ⟨g, .inr o⟩]
      clear a b e g n m o r0
      go_enter Try.func5, Try.ntmps5
      go_wp2
      go_ret
      exact ⟨by first | rfl | (rw [r]; rfl), rfl⟩
    have m1 : decide (h = c - 1) = false := decide_eq_false m
    have m2 : (h == c - 1) = false := by simpa using m
    have m3 : decide (h ≠ c - 1) = true := by simpa using m
    have m4 : (h != c - 1) = true := by simpa using m
    have o : ¬ IntKind.i64.wrap (h + 1) = c := fun q => by rw [IntKind.wrap_i64] at q; omega
    have o1 : decide (IntKind.i64.wrap (h + 1) = c) = false := decide_eq_false o
    have o2 : (IntKind.i64.wrap (h + 1) == c) = false := by simpa using o
    have o3 : decide (IntKind.i64.wrap (h + 1) ≠ c) = true := by simpa using o
    have o4 : (IntKind.i64.wrap (h + 1) != c) = true := by simpa using o
    have r : startZ c h l = 4 := by rw [r0, if_neg e, if_neg (by omega)]
    clear a b e g n m o r0
    go_enter Try.func5, Try.ntmps5
    go_wp2
    go_ret
    exact ⟨by first | rfl | (rw [r]; rfl), rfl⟩
  have g1 : decide (l = c) = false := decide_eq_false g
  have g2 : (l == c) = false := by simpa using g
  have g3 : decide (l ≠ c) = true := by simpa using g
  have g4 : (l != c) = true := by simpa using g
  have r : startZ c h l = 4 := by rw [r0, if_neg e, if_neg (fun q => g q.1)]
  clear a b e g r0
  go_enter Try.func5, Try.ntmps5
  go_wp2
  go_ret
  exact ⟨by first | rfl | (rw [r]; rfl), rfl⟩
set_option maxRecDepth 100000 in
set_option maxHeartbeats 4000000 in
theorem refStart_any (c h l : Int) (k1 : -9223372036854775808 ≤ h) (k2 : h ≤ 9223372036854775807) (w : World) : Calls Try.prog 6 #[.int .i64 c, .int .i64 h, .int .i64 l] w fun e w' => e = .returned (.int .i64 (startZ c h l)) ∧ w = w' := by
  by_cases a : c < 0
  · have a1 : decide (c < 0) = true := decide_eq_true a
    have r : startZ c h l = 4 := if_pos (.inl a)
    go_enter Try.func6, Try.ntmps6
    go_wp2
    go_ret
    exact ⟨by first | rfl | (rw [r]; rfl), rfl⟩
  have a1 : decide (c < 0) = false := decide_eq_false a
  by_cases b : 4611686018427387904 < c
  · have b1 : decide (4611686018427387904 < c) = true := decide_eq_true b
    have r : startZ c h l = 4 := if_pos (.inr b)
    go_enter Try.func6, Try.ntmps6
    go_wp2
    go_ret
    exact ⟨by first | rfl | (rw [r]; rfl), rfl⟩
  have b1 : decide (4611686018427387904 < c) = false := decide_eq_false b
  have w1 : wrap64 (c + 1) = c + 1 := IntWalk.wrap64_in _ (by omega)
  have w2 : wrap64 (c - 1) = c - 1 := IntWalk.wrap64_in _ (by omega)
  have w3 : IntKind.i64.wrap (c + 1) = c + 1 := IntWalk.i64_in _ (by omega)
  have w4 : IntKind.i64.wrap (c - 1) = c - 1 := IntWalk.i64_in _ (by omega)
  have r0 : startZ c h l = if h = c then (if l = c + 1 then 3 else if l = c then 2 else 1) else if l = c ∧ (h < 0 ∨ h + 1 = c) then 2 else 4 := if_neg (by omega)
  by_cases e : h = c
  · have e1 : decide (h = c) = true := decide_eq_true e
    have e2 : (h == c) = true := by simpa using e
    have e3 : decide (h ≠ c) = false := by simpa using e
    have e4 : (h != c) = false := by simpa using e
    by_cases f : l = c + 1
    · have f1 : decide (l = c + 1) = true := decide_eq_true f
      have f2 : (l == c + 1) = true := by simpa using f
      have f3 : decide (l ≠ c + 1) = false := by simpa using f
      have f4 : (l != c + 1) = false := by simpa using f
      have r : startZ c h l = 3 := by rw [r0, if_pos e, if_pos f]
      clear a b e f r0
      go_enter Try.func6, Try.ntmps6
      go_wp2
      go_ret
      exact ⟨by first | rfl | (rw [r]; rfl), rfl⟩
    have f1 : decide (l = c + 1) = false := decide_eq_false f
    have f2 : (l == c + 1) = false := by simpa using f
    have f3 : decide (l ≠ c + 1) = true := by simpa using f
    have f4 : (l != c + 1) = true := by simpa using f
    by_cases g : l = c
    · have g1 : decide (l = c) = true := decide_eq_true g
      have g2 : (l == c) = true := by simpa using g
      have g3 : decide (l ≠ c) = false := by simpa using g
      have g4 : (l != c) = false := by simpa using g
      have r : startZ c h l = 2 := by rw [r0, if_pos e, if_neg f, if_pos g]
      clear a b e f g r0
      go_enter Try.func6, Try.ntmps6
      go_wp2
      go_ret
      exact ⟨by first | rfl | (rw [r]; rfl), rfl⟩
    have g1 : decide (l = c) = false := decide_eq_false g
    have g2 : (l == c) = false := by simpa using g
    have g3 : decide (l ≠ c) = true := by simpa using g
    have g4 : (l != c) = true := by simpa using g
    have r : startZ c h l = 1 := by rw [r0, if_pos e, if_neg f, if_neg g]
    clear a b e f g r0
    go_enter Try.func6, Try.ntmps6
    go_wp2
    go_ret
    exact ⟨by first | rfl | (rw [r]; rfl), rfl⟩
  have e1 : decide (h = c) = false := decide_eq_false e
  have e2 : (h == c) = false := by simpa using e
  have e3 : decide (h ≠ c) = true := by simpa using e
  have e4 : (h != c) = true := by simpa using e
  by_cases g : l = c
  · have g1 : decide (l = c) = true := decide_eq_true g
    have g2 : (l == c) = true := by simpa using g
    have g3 : decide (l ≠ c) = false := by simpa using g
    have g4 : (l != c) = false := by simpa using g
    by_cases n : h < 0
    · have n1 : decide (h < 0) = true := decide_eq_true n
      have r : startZ c h l = 2 := by rw [r0, if_neg e, if_pos ⟨g, .inl n⟩]
      by_cases m : h = c - 1
      · have m1 : decide (h = c - 1) = true := decide_eq_true m
        have m2 : (h == c - 1) = true := by simpa using m
        have m3 : decide (h ≠ c - 1) = false := by simpa using m
        have m4 : (h != c - 1) = false := by simpa using m
        clear a b e g n m r0
        go_enter Try.func6, Try.ntmps6
        go_wp2
        go_ret
        exact ⟨by first | rfl | (rw [r]; rfl), rfl⟩
      have m1 : decide (h = c - 1) = false := decide_eq_false m
      have m2 : (h == c - 1) = false := by simpa using m
      have m3 : decide (h ≠ c - 1) = true := by simpa using m
      have m4 : (h != c - 1) = true := by simpa using m
      clear a b e g n m r0
      go_enter Try.func6, Try.ntmps6
      go_wp2
      go_ret
      exact ⟨by first | rfl | (rw [r]; rfl), rfl⟩
    have n1 : decide (h < 0) = false := decide_eq_false n
    have hc : 0 ≤ h := by omega
    by_cases m : h = c - 1
    · have m1 : decide (h = c - 1) = true := decide_eq_true m
      have m2 : (h == c - 1) = true := by simpa using m
      have m3 : decide (h ≠ c - 1) = false := by simpa using m
      have m4 : (h != c - 1) = false := by simpa using m
      have o : h + 1 = c := by omega
      have o1 : decide (h + 1 = c) = true := decide_eq_true o
      have o2 : (h + 1 == c) = true := by simpa using o
      have o3 : decide (h + 1 ≠ c) = false := by simpa using o
      have o4 : (h + 1 != c) = false := by simpa using o
      have v1 : wrap64 (h + 1) = h + 1 := IntWalk.wrap64_in _ (by omega)
      have v2 : IntKind.i64.wrap (h + 1) = h + 1 := IntWalk.i64_in _ (by omega)
      have r : startZ c h l = 2 := by rw [r0, if_neg e, if_pos ⟨g, .inr o⟩]
      clear a b e g n m o r0
      go_enter Try.func6, Try.ntmps6
      go_wp2
      go_ret
      exact ⟨by first | rfl | (rw [r]; rfl), rfl⟩
    have m1 : decide (h = c - 1) = false := decide_eq_false m
    have m2 : (h == c - 1) = false := by simpa using m
    have m3 : decide (h ≠ c - 1) = true := by simpa using m
    have m4 : (h != c - 1) = true := by simpa using m
    have o : ¬ IntKind.i64.wrap (h + 1) = c := fun q => by rw [IntKind.wrap_i64] at q; omega
    have o1 : decide (IntKind.i64.wrap (h + 1) = c) = false := decide_eq_false o
    have o2 : (IntKind.i64.wrap (h + 1) == c) = false := by simpa using o
    have o3 : decide (IntKind.i64.wrap (h + 1) ≠ c) = true := by simpa using o
    have o4 : (IntKind.i64.wrap (h + 1) != c) = true := by simpa using o
    have r : startZ c h l = 4 := by rw [r0, if_neg e, if_neg (by omega)]
    generalize hq : IntKind.i64.wrap (h + 1) = q at *
    have hq2 : wrap64 (h + 1) = q := by rw [← hq, IntKind.wrap_i64]; try (unfold wrap64; omega)
    clear a b e g n m o r0
    go_enter Try.func6, Try.ntmps6
    go_wp2
    go_ret
    exact ⟨by first | rfl | (rw [r]; rfl), rfl⟩
  have g1 : decide (l = c) = false := decide_eq_false g
  have g2 : (l == c) = false := by simpa using g
  have g3 : decide (l ≠ c) = true := by simpa using g
  have g4 : (l != c) = true := by simpa using g
  have r : startZ c h l = 4 := by rw [r0, if_neg e, if_neg (fun q => g q.1)]
  clear a b e g r0
  go_enter Try.func6, Try.ntmps6
  go_wp2
  go_ret
  exact ⟨by first | rfl | (rw [r]; rfl), rfl⟩
end Go.Proofs.Ytdeojhcfbiekmaa

/- The contracts of the document's New and Tamper where they refuse; of its Tamper that writes. Conditions: as each says. -/
import Derived.Test.YtbejfpdkfpgipaaPlRefD
namespace Go.Proofs.Ytbejfpdkfpgipaa
open Go.ChangeShapes Go.WideShapes Go.ChangeAt Go.RowKit
set_option linter.unusedVariables false
section
variable {w : World} {r : RBlk} {base : Nat} {d : Disk} {L : Nat} {R : Since}
set_option maxRecDepth 100000 in
theorem rNew_range (x y : Int) (h : x < 1 ∨ 2048 < x ∨ y < 1 ∨ 16 < y) (w : World) : Calls Try.prog 13 #[.int .i64 x, .int .i64 y] w fun e w' => e = .returned (.tuple #[.pointer none, .int .i64 1]) ∧ w = w' := by
  by_cases h1 : x < 1
  · have d1 : decide (x < 1) = true := by simpa using h1
    clear h h1
    go_enter Try.func13, Try.ntmps13
    go_wp2_with fail
    go_ret2
    exact ⟨rfl, rfl⟩
  have d1 : decide (x < 1) = false := by simpa using h1
  by_cases h2 : 2048 < x
  · have d2 : decide (2048 < x) = true := by simpa using h2
    clear h h1 h2
    go_enter Try.func13, Try.ntmps13
    go_wp2_with fail
    go_ret2
    exact ⟨rfl, rfl⟩
  have d2 : decide (2048 < x) = false := by simpa using h2
  by_cases h3 : y < 1
  · have d3 : decide (y < 1) = true := by simpa using h3
    clear h h1 h2 h3
    go_enter Try.func13, Try.ntmps13
    go_wp2_with fail
    go_ret2
    exact ⟨rfl, rfl⟩
  have d3 : decide (y < 1) = false := by simpa using h3
  have h4 : 16 < y := by omega
  have d4 : decide (16 < y) = true := by simpa using h4
  clear h h1 h2 h3 h4
  go_enter Try.func13, Try.ntmps13
  go_wp2_with fail
  go_ret2
  exact ⟨rfl, rfl⟩
set_option maxRecDepth 100000 in
theorem rTamper_range (h : RefAt w r base d L R) (x : Int) (p : Option Addr) (n cap : Nat) (hx : hasB d.ns x = false ∨ 128 < n) : Calls Try.prog 24 #[.pointer (some ⟨r.B, 0, none⟩), .int .i64 x, .slice p n cap] w fun e w' => e = .returned (.int .i64 1) ∧ w = w' := by
  have c0 := h.c0
  by_cases hb : hasB d.ns x = false
  · rcases has_no hb with hx1 | ⟨hx1, hx2⟩
    · have p1 : decide (x < 0) = true := by simpa using hx1
      clear h hx hb
      go_enter Try.func24, Try.ntmps24
      go_wp2
      go_ret
      exact ⟨rfl, rfl⟩
    · have p1 : decide (x < 0) = false := by simpa using hx1
      have p2 : decide ((d.ns : Int) ≤ x) = true := by simpa using hx2
      clear h hx hb
      go_enter Try.func24, Try.ntmps24
      go_wp2
      go_ret
      exact ⟨rfl, rfl⟩
  · have hn : 128 < n := by rcases hx with e | e; exact absurd e hb; exact e
    have hx2 : 0 ≤ x ∧ x < d.ns := by unfold hasB at hb; simpa using hb
    have p1 : decide (x < 0) = false := by simp; omega
    have p2 : decide ((d.ns : Int) ≤ x) = false := by simp; omega
    have p3 : decide ((128 : Int) < (n : Int)) = true := by simp; omega
    have p3b : decide (128 < n) = true := by simp; omega
    clear h hx hb hn hx2
    go_enter Try.func24, Try.ntmps24
    go_wp2
    go_ret
    exact ⟨rfl, rfl⟩
end
end Go.Proofs.Ytbejfpdkfpgipaa

/- The contracts of package platter's Arm, Counter, Raise, of the fuse's arm and mend, and of New that is refused. Conditions: as each says. -/
import Derived.Test.YtbejfpdkfpgipaaPlFuse
namespace Go.Proofs.Ytbejfpdkfpgipaa
open Go.ChangeShapes Go.WideShapes Go.ChangeAt Go.RowKit
set_option linter.unusedVariables false
section
variable {w : World} {b : Blks} {d : Disk}
def Disk.mended (d : Disk) : Disk := { d with armed := false, left := 0, down := false }
def Disk.armedWith (d : Disk) (n : Nat) : Disk := { d with armed := true, left := n }
set_option maxRecDepth 100000 in
theorem mend_ok (h : DiskAt w b d) : Calls Try.prog 52 #[.pointer (some ⟨b.B, 0, none⟩)] w fun e w' => e = .returned (.tuple #[]) ∧ DiskAt w' b d.mended ∧ Keeps (fun k => k = b.B) w w' := by
  have f1 := h.free 1
  have f2 := h.free 2
  have f3 := h.free 3
  have h1 : DiskAt (w.setCell ⟨b.B, 1, none⟩ (.bool false)) b { d with armed := false } := h.setB 1 _ _ rfl rfl rfl rfl rfl (Nat.le_refl _)
  have h2 : DiskAt ((w.setCell ⟨b.B, 1, none⟩ (.bool false)).setCell ⟨b.B, 2, none⟩ (.int .i64 0)) b { d with armed := false, left := 0 } := h1.setB 2 _ _ rfl rfl rfl rfl rfl (Nat.le_refl _)
  have h3 : DiskAt (((w.setCell ⟨b.B, 1, none⟩ (.bool false)).setCell ⟨b.B, 2, none⟩ (.int .i64 0)).setCell ⟨b.B, 3, none⟩ (.bool false)) b d.mended := h2.setB 3 _ _ rfl rfl rfl rfl rfl (Nat.le_refl _)
  have g1 := h1.free 2
  have g2 := h2.free 3
  have c1 := h.c1
  have c2 := h1.c2
  have c3 := h2.c3
  have HK := Lib.hid ((((Keeps.refl (fun k => k = b.B) w).setCell (S := fun k => k = b.B) rfl 1 (.bool false)).setCell (S := fun k => k = b.B) rfl 2 (.int .i64 0)).setCell (S := fun k => k = b.B) rfl 3 (.bool false))
  have HD := Lib.hid h3
  clear h h1 h2 h3
  go_enter Try.func52, Try.ntmps52
  go_wp2
  go_end0
  exact ⟨rfl, HD.out, HK.out⟩
set_option maxRecDepth 100000 in
theorem arm_ok (h : DiskAt w b d) (n : Nat) : Calls Try.prog 50 #[.pointer (some ⟨b.B, 0, none⟩), .int .i64 n] w fun e w' => e = .returned (.tuple #[]) ∧ DiskAt w' b (d.armedWith n) ∧ Keeps (fun k => k = b.B) w w' := by
  have f1 := h.free 1
  have f2 := h.free 2
  have h1 : DiskAt (w.setCell ⟨b.B, 1, none⟩ (.bool true)) b { d with armed := true } := h.setB 1 _ _ rfl rfl rfl rfl rfl (Nat.le_refl _)
  have h2 : DiskAt ((w.setCell ⟨b.B, 1, none⟩ (.bool true)).setCell ⟨b.B, 2, none⟩ (.int .i64 n)) b (d.armedWith n) := h1.setB 2 _ _ rfl rfl rfl rfl rfl (Nat.le_refl _)
  have g1 := h1.free 2
  have c1 := h.c1
  have c2 := h1.c2
  have HK := Lib.hid (((Keeps.refl (fun k => k = b.B) w).setCell (S := fun k => k = b.B) rfl 1 (.bool true)).setCell (S := fun k => k = b.B) rfl 2 (.int .i64 n))
  have HD := Lib.hid h2
  clear h h1 h2
  go_enter Try.func50, Try.ntmps50
  go_wp2
  go_end0
  exact ⟨rfl, HD.out, HK.out⟩
set_option maxRecDepth 100000 in
theorem Arm_ok (h : DiskAt w b d) (n : Nat) : Calls Try.prog 27 #[.pointer (some ⟨b.B, 0, none⟩), .int .i64 n] w fun e w' => e = .returned .nilIface ∧ DiskAt w' b (d.armedWith n) ∧ Keeps b.own w w' := by
  have HC := Lib.hid (arm_ok h n)
  have d1 : decide ((n : Int) < 0) = false := by simp
  clear h
  go_enter Try.func27, Try.ntmps27
  go_wp2_with (go_at_call 50; refine (HC.out).mono ?_; rintro e w1 ⟨rfl, h1, h2⟩)
  go_ret
  exact ⟨rfl, h1, h2.mono fun k _ e => .inl e⟩
set_option maxRecDepth 100000 in
theorem Arm_range (w : World) (B : Nat) (x : Int) (hx : x < 0) : Calls Try.prog 27 #[.pointer (some ⟨B, 0, none⟩), .int .i64 x] w fun e w' => e = .returned (errV 1) ∧ w = w' := by
  have d1 : decide (x < 0) = true := by simpa using hx
  unfold errV
  clear hx
  go_enter Try.func27, Try.ntmps27
  go_wp2_with fail
  go_ret
  exact ⟨rfl, rfl⟩
set_option maxRecDepth 100000 in
theorem Arm_nil (w : World) (x : Int) : Calls Try.prog 27 #[.pointer none, .int .i64 x] w fun e w' => e = .returned (errV 1) ∧ w = w' := by
  unfold errV
  go_enter Try.func27, Try.ntmps27
  go_wp2_with fail
  go_ret
  exact ⟨rfl, rfl⟩
set_option maxRecDepth 100000 in
theorem Counter_nil (w : World) (x : Int) : Calls Try.prog 39 #[.pointer none, .int .i64 x] w fun e w' => e = .returned (.tuple #[.int .i64 0, errV 1]) ∧ w = w' := by
  unfold errV
  go_enter Try.func39, Try.ntmps39
  go_wp2_with fail
  go_ret2
  exact ⟨rfl, rfl⟩
set_option maxRecDepth 100000 in
theorem Counter_range (h : DiskAt w b d) (x : Int) (hx : hasB d.cnt.length x = false) : Calls Try.prog 39 #[.pointer (some ⟨b.B, 0, none⟩), .int .i64 x] w fun e w' => e = .returned (.tuple #[.int .i64 0, errV 1]) ∧ w = w' := by
  unfold errV
  have c6 := h.c6
  unfold hasB at hx
  generalize d.cnt.length = n at *
  by_cases h0 : 0 ≤ x
  · have h1 : (n : Int) ≤ x := by simpa [h0] using hx
    have d1 : decide (x < 0) = false := by simpa using h0
    have d2 : decide ((n : Int) ≤ x) = true := by simpa using h1
    clear hx h h0 h1
    go_enter Try.func39, Try.ntmps39
    go_wp2_with fail
    go_ret2
    exact ⟨rfl, rfl⟩
  · have d1 : decide (x < 0) = true := by simp; omega
    clear hx h h0
    go_enter Try.func39, Try.ntmps39
    go_wp2_with fail
    go_ret2
    exact ⟨rfl, rfl⟩
set_option maxRecDepth 100000 in
theorem Counter_ok (h : DiskAt w b d) (i : Nat) (hi : i < d.cnt.length) : Calls Try.prog 39 #[.pointer (some ⟨b.B, 0, none⟩), .int .i64 i] w fun e w' => e = .returned (.tuple #[.int .i64 (d.cnt.getD i 0), .nilIface]) ∧ w = w' := by
  have c6 := h.c6
  have cc := h.cnts.cell hi
  generalize d.cnt.getD i 0 = v at *
  generalize d.cnt.length = n at *
  have d1 : decide ((i : Int) < 0) = false := by simp
  have d2 : decide ((n : Int) ≤ (i : Int)) = false := by simp; omega
  have d3 : decide (n ≤ i) = false := by simp; omega
  have b1 : (i : Int) < n := by omega
  have b2 : (0 : Int) ≤ i := by omega
  clear h
  go_enter Try.func39, Try.ntmps39
  go_wp2_with fail
  go_ret2
  exact ⟨rfl, rfl⟩
end
end Go.Proofs.Ytbejfpdkfpgipaa

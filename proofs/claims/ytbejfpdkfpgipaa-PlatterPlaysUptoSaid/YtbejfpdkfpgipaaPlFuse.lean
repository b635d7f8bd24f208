/- The contracts of package platter's small methods: Size, has, Steps, Down, Counter, the fuse's step, arm, mend. Conditions: the disk lies in memory. -/
import Derived.Test.YtbejfpdkfpgipaaPlDisk
namespace Go.Proofs.Ytbejfpdkfpgipaa
open Go.ChangeShapes Go.WideShapes Go.ChangeAt Go.RowKit
set_option linter.unusedVariables false
def ptrB (b : Blks) : Value := .pointer (some ⟨b.B, 0, none⟩)
def errV (z : Int) : Value := .iface 52 (.int .i64 z)
section
variable {w : World} {b : Blks} {d : Disk}
set_option maxRecDepth 100000 in
theorem Size_ok (h : DiskAt w b d) : Calls Try.prog 42 #[.pointer (some ⟨b.B, 0, none⟩)] w fun e w' => e = .returned (.int .i64 d.ns) ∧ w = w' := by
  have c4 := h.c4
  clear h
  go_enter Try.func42, Try.ntmps42
  go_wp2
  go_ret
  exact ⟨rfl, rfl⟩
set_option maxRecDepth 100000 in
theorem Size_nil (w : World) : Calls Try.prog 42 #[.pointer none] w fun e w' => e = .returned (.int .i64 0) ∧ w = w' := by
  go_enter Try.func42, Try.ntmps42
  go_wp2
  go_ret
  exact ⟨rfl, rfl⟩
set_option maxRecDepth 100000 in
theorem Steps_ok (h : DiskAt w b d) : Calls Try.prog 34 #[.pointer (some ⟨b.B, 0, none⟩)] w fun e w' => e = .returned (.int .i64 d.made) ∧ w = w' := by
  have c0 := h.c0
  clear h
  go_enter Try.func34, Try.ntmps34
  go_wp2
  go_ret
  exact ⟨rfl, rfl⟩
set_option maxRecDepth 100000 in
theorem Steps_nil (w : World) : Calls Try.prog 34 #[.pointer none] w fun e w' => e = .returned (.int .i64 0) ∧ w = w' := by
  go_enter Try.func34, Try.ntmps34
  go_wp2
  go_ret
  exact ⟨rfl, rfl⟩
set_option maxRecDepth 100000 in
theorem Down_ok (h : DiskAt w b d) : Calls Try.prog 35 #[.pointer (some ⟨b.B, 0, none⟩)] w fun e w' => e = .returned (.bool d.down) ∧ w = w' := by
  have c3 := h.c3
  clear h
  go_enter Try.func35, Try.ntmps35
  go_wp2
  go_ret
  exact ⟨rfl, rfl⟩
set_option maxRecDepth 100000 in
theorem Down_nil (w : World) : Calls Try.prog 35 #[.pointer none] w fun e w' => e = .returned (.bool true) ∧ w = w' := by
  go_enter Try.func35, Try.ntmps35
  go_wp2
  go_ret
  exact ⟨rfl, rfl⟩
def hasB (n : Nat) (x : Int) : Bool := decide (0 ≤ x) && decide (x < n)
set_option maxRecDepth 100000 in
theorem has_ok (h : DiskAt w b d) (x : Int) : Calls Try.prog 44 #[.pointer (some ⟨b.B, 0, none⟩), .int .i64 x] w fun e w' => e = .returned (.bool (hasB d.ns x)) ∧ w = w' := by
  have SC := Lib.hid (Size_ok h)
  clear h
  unfold hasB
  by_cases h0 : 0 ≤ x
  · have d0 : decide (0 ≤ x) = true := by simpa using h0
    rw [d0, Bool.true_and]
    clear h0
    go_enter Try.func44, Try.ntmps44
    go_wp2_with (go_at_call 42; refine (SC.out).mono ?_; rintro e w1 ⟨rfl, rfl⟩)
    go_ret
    exact ⟨rfl, rfl⟩
  · have d0 : decide (0 ≤ x) = false := by simpa using h0
    rw [d0, Bool.false_and]
    clear h0
    go_enter Try.func44, Try.ntmps44
    go_wp2_with (go_at_call 42; refine (SC.out).mono ?_; rintro e w1 ⟨rfl, rfl⟩)
    go_ret
    exact ⟨rfl, rfl⟩
set_option maxRecDepth 100000 in
theorem has_nil (x : Int) (w : World) : Calls Try.prog 44 #[.pointer none, .int .i64 x] w fun e w' => e = .returned (.bool false) ∧ w = w' := by
  have SC := Lib.hid (Size_nil w)
  by_cases h0 : 0 ≤ x
  · have d0 : decide (0 ≤ x) = true := by simpa using h0
    have d1 : decide (x < 0) = false := by simp; omega
    clear h0
    go_enter Try.func44, Try.ntmps44
    go_wp2_with (go_at_call 42; refine (SC.out).mono ?_; rintro e w1 ⟨rfl, rfl⟩)
    go_ret
    exact ⟨rfl, rfl⟩
  · have d0 : decide (0 ≤ x) = false := by simpa using h0
    clear h0
    go_enter Try.func44, Try.ntmps44
    go_wp2_with (go_at_call 42; refine (SC.out).mono ?_; rintro e w1 ⟨rfl, rfl⟩)
    go_ret
    exact ⟨rfl, rfl⟩

/-! ### The fuse -/
def Disk.gone (d : Disk) : Bool := d.down || (d.armed && d.left == 0)
def Disk.fell (d : Disk) : Disk := { d with down := true }
def Disk.went (d : Disk) : Disk := { d with made := d.made + 1, left := if d.armed then d.left - 1 else d.left }
set_option maxRecDepth 100000 in
theorem step_down (h : DiskAt w b d) (hg : d.gone = true) : Calls Try.prog 45 #[.pointer (some ⟨b.B, 0, none⟩)] w fun e w' => e = .returned (errV 5) ∧ DiskAt w' b d.fell ∧ Keeps (fun k => k = b.B) w w' ∧ w'.heap.size = w.heap.size := by
  have c1 := h.c1
  have c2 := h.c2
  have c3 := h.c3
  have f3 := h.free 3
  have hs := h.setB 3 (.bool true) d.fell rfl rfl rfl rfl rfl (Nat.le_refl _)
  have hk : Keeps (fun k => k = b.B) w (w.setCell ⟨b.B, 3, none⟩ (.bool true)) := (Keeps.refl (fun k => k = b.B) w).setCell (S := fun k => k = b.B) rfl 3 _
  have H := Lib.hid h
  have HS := Lib.hid hs
  have HK := Lib.hid hk
  unfold errV
  clear hs hk
  unfold Disk.gone at hg
  by_cases ha : d.armed = true
  · by_cases hl : d.left = 0
    · have dl : decide ((d.left : Int) = 0) = true := by simpa using hl
      rw [ha] at c1
      rw [hl] at c2
      clear hg hl h dl
      go_enter Try.func45, Try.ntmps45
      go_wp2
      go_ret
      exact ⟨rfl, HS.out, HK.out, by simp [World.setCell]⟩
    · have dl : decide ((d.left : Int) = 0) = false := by simpa using hl
      have dl2 : ((d.left : Int) == 0) = false := by simpa using hl
      have hd : d.down = true := by simpa [ha, hl] using hg
      have e : d.fell = d := by unfold Disk.fell; rw [← hd]
      rw [ha] at c1
      rw [hd] at c3
      rw [e]
      clear hg hl h e HS
      go_enter Try.func45, Try.ntmps45
      go_wp2
      go_ret
      exact ⟨rfl, H.out, .refl _ _, rfl⟩
  · have hd : d.down = true := by simpa [ha] using hg
    have e : d.fell = d := by unfold Disk.fell; rw [← hd]
    rw [hd] at c3
    rw [show d.armed = false by simpa using ha] at c1
    rw [e]
    clear hg ha h e HS
    go_enter Try.func45, Try.ntmps45
    go_wp2
    go_ret
    exact ⟨rfl, H.out, .refl _ _, rfl⟩
set_option maxRecDepth 100000 in
theorem step_on (h : DiskAt w b d) (hg : d.gone = false) (hm : d.made < 4611686018427387904) (hl : d.left < 9223372036854775808) : Calls Try.prog 45 #[.pointer (some ⟨b.B, 0, none⟩)] w fun e w' => e = .returned .nilIface ∧ DiskAt w' b d.went ∧ Keeps (fun k => k = b.B) w w' ∧ w'.heap.size = w.heap.size := by
  have c0 := h.c0
  have c1 := h.c1
  have c2 := h.c2
  have c3 := h.c3
  have f0 := h.free 0
  have f2 := h.free 2
  unfold Disk.gone at hg
  have hd : d.down = false := by cases hq : d.down <;> simp_all
  rw [hd] at c3
  have em : IntKind.i64.wrap ((d.made : Int) + 1) = ((d.made + 1 : Nat) : Int) := by rw [IntWalk.i64_in _ (by omega)]; omega
  by_cases ha : d.armed = true
  · have h0 : d.left ≠ 0 := by simpa [ha, hd] using hg
    have dl : decide ((d.left : Int) = 0) = false := by simpa using h0
    have dl2 : ((d.left : Int) == 0) = false := by simpa using h0
    have el : IntKind.i64.wrap ((d.left : Int) - 1) = ((d.left - 1 : Nat) : Int) := by rw [IntWalk.i64_in _ (by omega)]; omega
    have h1 : DiskAt (w.setCell ⟨b.B, 2, none⟩ (.int .i64 (d.left - 1 : Nat))) b { d with left := d.left - 1 } := h.setB 2 _ _ rfl rfl rfl rfl rfl (Nat.le_refl _)
    have h2 : DiskAt ((w.setCell ⟨b.B, 2, none⟩ (.int .i64 (d.left - 1 : Nat))).setCell ⟨b.B, 0, none⟩ (.int .i64 (d.made + 1 : Nat))) b d.went := h1.setB 0 _ _ (by unfold Disk.went; rw [if_pos ha]; rfl) rfl rfl rfl rfl (Nat.le_succ _)
    have hk := Lib.hid (((Keeps.refl (fun k => k = b.B) w).setCell (S := fun k => k = b.B) rfl 2 (.int .i64 (d.left - 1 : Nat))).setCell (S := fun k => k = b.B) rfl 0 (.int .i64 (d.made + 1 : Nat)))
    have g0 := h1.c0
    have HD := Lib.hid h2
    rw [ha] at c1
    clear hg h h1 h2 hm hl h0
    generalize d.left = L at *
    generalize d.made = M at *
    go_enter Try.func45, Try.ntmps45
    go_wp2
    go_ret
    exact ⟨rfl, HD.out, hk.out, by simp [World.setCell]⟩
  · have h2 : DiskAt (w.setCell ⟨b.B, 0, none⟩ (.int .i64 (d.made + 1 : Nat))) b d.went := h.setB 0 _ _ (by unfold Disk.went; rw [if_neg ha]; rfl) rfl rfl rfl rfl (Nat.le_succ _)
    have hk := Lib.hid ((Keeps.refl (fun k => k = b.B) w).setCell (S := fun k => k = b.B) rfl 0 (.int .i64 (d.made + 1 : Nat)))
    have HD := Lib.hid h2
    rw [show d.armed = false by simpa using ha] at c1
    clear hg h h2 hm hl ha
    generalize d.made = M at *
    go_enter Try.func45, Try.ntmps45
    go_wp2
    go_ret
    exact ⟨rfl, HD.out, hk.out, by simp [World.setCell]⟩
end
end Go.Proofs.Ytbejfpdkfpgipaa

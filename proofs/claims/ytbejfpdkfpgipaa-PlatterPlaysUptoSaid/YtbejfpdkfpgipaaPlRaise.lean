/- The contract of package platter's Raise, and New where it refuses. Conditions: the disk lies in memory; less than 2^62 steps were made. -/
import Derived.Test.YtbejfpdkfpgipaaPlMisc
namespace Go.Proofs.Ytbejfpdkfpgipaa
open Go.ChangeShapes Go.WideShapes Go.ChangeAt Go.RowKit
set_option linter.unusedVariables false
section
variable {w : World} {b : Blks} {d : Disk}
theorem DiskAt.setC (h : DiskAt w b d) (i : Nat) (v : Int) : DiskAt (w.setCell ⟨b.cb, i, none⟩ (.int .i64 v)) b { d with cnt := d.cnt.set i v } := by
  have oth : ∀ k, k ≠ b.cb → (w.setCell ⟨b.cb, i, none⟩ (.int .i64 v)).heap[k]? = w.heap[k]? := fun k hk => Below.heap_setCell _ _ _ k (fun e => hk e)
  refine ⟨?_, h.sect.keep (oth _ h.ne3), h.opn.keep (oth _ h.neC), h.cnts.set i v, h.ne1, h.ne2, h.ne3, h.wf, h.ns1, h.ns2, by simpa using h.nc⟩
  have := (oth _ h.ne2).trans h.plat
  rw [this]
  simp [platV]
def Disk.raised (d : Disk) (i : Nat) (v : Int) : Disk := { d.went with cnt := d.cnt.set i v }
set_option maxRecDepth 100000 in
theorem Raise_nil (w : World) (x n : Int) : Calls Try.prog 20 #[.pointer none, .int .i64 x, .int .i64 n] w fun e w' => e = .returned (errV 1) ∧ w = w' := by
  have HC := Lib.hid (Counter_nil w x)
  unfold errV at *
  go_enter Try.func20, Try.ntmps20
  go_wp2_with (go_at_call 39; refine (HC.out).mono ?_; rintro e w1 ⟨rfl, rfl⟩)
  go_ret
  exact ⟨rfl, rfl⟩
set_option maxRecDepth 100000 in
theorem Raise_range (h : DiskAt w b d) (x n : Int) (hx : hasB d.cnt.length x = false) : Calls Try.prog 20 #[.pointer (some ⟨b.B, 0, none⟩), .int .i64 x, .int .i64 n] w fun e w' => e = .returned (errV 1) ∧ w = w' := by
  have HC := Lib.hid (Counter_range h x hx)
  unfold errV at *
  clear h hx
  go_enter Try.func20, Try.ntmps20
  go_wp2_with (go_at_call 39; refine (HC.out).mono ?_; rintro e w1 ⟨rfl, rfl⟩)
  go_ret
  exact ⟨rfl, rfl⟩
set_option maxRecDepth 100000 in
theorem Raise_low (h : DiskAt w b d) (i : Nat) (hi : i < d.cnt.length) (n : Int) (hn : n < d.cnt.getD i 0) : Calls Try.prog 20 #[.pointer (some ⟨b.B, 0, none⟩), .int .i64 i, .int .i64 n] w fun e w' => e = .returned (errV 1) ∧ w = w' := by
  have HC := Lib.hid (Counter_ok h i hi)
  unfold errV at *
  generalize d.cnt.getD i 0 = v at *
  have d1 : decide (n < v) = true := by simpa using hn
  clear h hi hn
  go_enter Try.func20, Try.ntmps20
  go_wp2_with (go_at_call 39; refine (HC.out).mono ?_; rintro e w1 ⟨rfl, rfl⟩)
  go_ret
  exact ⟨rfl, rfl⟩
set_option maxRecDepth 100000 in
theorem Raise_down (h : DiskAt w b d) (i : Nat) (hi : i < d.cnt.length) (n : Int) (hn : d.cnt.getD i 0 ≤ n) (hg : d.gone = true) : Calls Try.prog 20 #[.pointer (some ⟨b.B, 0, none⟩), .int .i64 i, .int .i64 n] w fun e w' => e = .returned (errV 5) ∧ DiskAt w' b d.fell ∧ Keeps b.own w w' := by
  have HC := Lib.hid (Counter_ok h i hi)
  have HS := Lib.hid (step_down h hg)
  unfold errV at *
  generalize d.cnt.getD i 0 = v at *
  have d1 : decide (n < v) = false := by simpa using hn
  clear h hi hn hg
  go_enter Try.func20, Try.ntmps20
  go_wp2_with (first
    | (go_at_call 39; refine (HC.out).mono ?_; rintro e w1 ⟨rfl, rfl⟩)
    | (go_at_call 45; refine (HS.out).mono ?_; rintro e w1 ⟨rfl, h1, h2, h3⟩))
  go_ret
  exact ⟨rfl, h1, h2.mono fun k _ e => .inl e⟩
set_option maxRecDepth 100000 in
theorem Raise_on (h : DiskAt w b d) (i : Nat) (hi : i < d.cnt.length) (n : Int) (hn : d.cnt.getD i 0 ≤ n) (hg : d.gone = false) (hm : d.made < 4611686018427387904) (hl : d.left < 9223372036854775808) :
    Calls Try.prog 20 #[.pointer (some ⟨b.B, 0, none⟩), .int .i64 i, .int .i64 n] w fun e w' => e = .returned .nilIface ∧ DiskAt w' b (d.raised i n) ∧ Keeps b.own w w' := by
  have HC := Lib.hid (Counter_ok h i hi)
  have HS := Lib.hid (step_on h hg hm hl)
  have HI := Lib.hid hi
  generalize hv : d.cnt.getD i 0 = v at *
  have d1 : decide (n < v) = false := by simpa using hn
  have b2 : (0 : Int) ≤ i := by omega
  clear h hi hn hg hm hl hv
  go_enter Try.func20, Try.ntmps20
  go_wp2_with (first
    | (go_at_call 39; refine (HC.out).mono ?_; rintro e w1 ⟨rfl, rfl⟩)
    | (go_at_call 45; refine (HS.out).mono ?_; rintro e w1 ⟨rfl, h1, h2, h3⟩; have c6 : w1.cell? ⟨b.B, 6, none⟩ = some (.slice (some ⟨b.cb, 0, none⟩) d.cnt.length d.cnt.length) := h1.c6; have cc := h1.cnts.cell (i := i) HI.out; have cf := h1.cnts.free i; have HD := Lib.hid (h1.setC i n); have HK := Lib.hid ((h2.mono (S' := b.own) fun k _ e => .inl e).setCell (S := b.own) (.inr (.inr (.inr rfl))) i (.int .i64 n)); have b1 : (i : Int) < d.cnt.length := by (have := HI.out; omega)
       have b3 := HI.out
       clear h1 h2 h3 HS))
  go_ret
  exact ⟨rfl, HD.out, HK.out⟩
set_option maxRecDepth 100000 in
theorem New_range (x y : Int) (h : x < 1 ∨ 2048 < x ∨ y < 1 ∨ 16 < y) (w : World) : Calls Try.prog 12 #[.int .i64 x, .int .i64 y] w fun e w' => e = .returned (.tuple #[.pointer none, errV 1]) ∧ w = w' := by
  unfold errV
  by_cases h1 : x < 1
  · have d1 : decide (x < 1) = true := by simpa using h1
    clear h h1
    go_enter Try.func12, Try.ntmps12
    go_wp2_with fail
    go_ret2
    exact ⟨rfl, rfl⟩
  have d1 : decide (x < 1) = false := by simpa using h1
  by_cases h2 : 2048 < x
  · have d2 : decide (2048 < x) = true := by simpa using h2
    clear h h1 h2
    go_enter Try.func12, Try.ntmps12
    go_wp2_with fail
    go_ret2
    exact ⟨rfl, rfl⟩
  have d2 : decide (2048 < x) = false := by simpa using h2
  by_cases h3 : y < 1
  · have d3 : decide (y < 1) = true := by simpa using h3
    clear h h1 h2 h3
    go_enter Try.func12, Try.ntmps12
    go_wp2_with fail
    go_ret2
    exact ⟨rfl, rfl⟩
  have d3 : decide (y < 1) = false := by simpa using h3
  have h4 : 16 < y := by omega
  have d4 : decide (16 < y) = true := by simpa using h4
  clear h h1 h2 h3 h4
  go_enter Try.func12, Try.ntmps12
  go_wp2_with fail
  go_ret2
  exact ⟨rfl, rfl⟩
end
end Go.Proofs.Ytbejfpdkfpgipaa

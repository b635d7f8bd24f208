/- The contracts of the document's Raise, Now and Read. Conditions: the disk lies in memory; less than 2^62 steps were made. -/
import Derived.Test.YtbejfpdkfpgipaaPlRef
namespace Go.Proofs.Ytbejfpdkfpgipaa
open Go.ChangeShapes Go.WideShapes Go.ChangeAt Go.RowKit
set_option linter.unusedVariables false
section
variable {w : World} {r : RBlk} {base : Nat} {d : Disk} {L : Nat} {R : Since}
theorem RefAt.setC (h : RefAt w r base d L R) (i : Nat) (v : Int) : RefAt (w.setCell ⟨r.cb, i, none⟩ (.int .i64 v)) r base { d with cnt := d.cnt.set i v } L R := by
  have oth : ∀ k, k ≠ r.cb → (w.setCell ⟨r.cb, i, none⟩ (.int .i64 v)).heap[k]? = w.heap[k]? := fun k hk => Below.heap_setCell _ _ _ k (fun e => hk e)
  refine ⟨?_, h.left, h.sect.keep (oth _ h.ne5), h.rows.keep (oth _ h.ne6) (fun k hk => oth k (fun e => by have := (h.rowLt hk).1; have := h.lt r.cb (.inr (.inr (.inr rfl))); omega)), h.cnts.set i v, h.lt, h.ne1, h.ne2, h.ne3, h.ne4, h.ne5, h.ne6, h.wf, h.ns1, h.ns2, by simpa using h.nc⟩
  have := (oth _ h.ne3).trans h.plat
  rw [this]
  simp [refV]
theorem has_no {n : Nat} {x : Int} (h : hasB n x = false) : x < 0 ∨ (0 ≤ x ∧ (n : Int) ≤ x) := by
  unfold hasB at h
  simp at h
  omega
set_option maxRecDepth 100000 in
theorem rRaise_range (h : RefAt w r base d L R) (x n : Int) (hx : hasB d.cnt.length x = false) : Calls Try.prog 21 #[.pointer (some ⟨r.B, 0, none⟩), .int .i64 x, .int .i64 n] w fun e w' => e = .returned (.int .i64 1) ∧ w = w' := by
  have c2 := h.c2
  rcases has_no hx with hx | ⟨hx1, hx2⟩
  · have p1 : decide (x < 0) = true := by simpa using hx
    clear h hx
    go_enter Try.func21, Try.ntmps21
    go_wp2
    go_ret
    exact ⟨rfl, rfl⟩
  · have p1 : decide (x < 0) = false := by simpa using hx1
    have p2 : decide ((d.cnt.length : Int) ≤ x) = true := by simpa using hx2
    clear h hx
    go_enter Try.func21, Try.ntmps21
    go_wp2
    go_ret
    exact ⟨rfl, rfl⟩
set_option maxRecDepth 100000 in
theorem rRaise_low (h : RefAt w r base d L R) (i : Nat) (hi : i < d.cnt.length) (n : Int) (hn : n < d.cnt.getD i 0) : Calls Try.prog 21 #[.pointer (some ⟨r.B, 0, none⟩), .int .i64 i, .int .i64 n] w fun e w' => e = .returned (.int .i64 1) ∧ w = w' := by
  have c2 := h.c2
  have cc := h.cnts.cell (i := i) hi
  generalize d.cnt.getD i 0 = v at *
  have d1 : decide (n < v) = true := by simpa using hn
  have p2 : decide ((d.cnt.length : Int) ≤ (i : Int)) = false := by simp; omega
  have p3 : (i : Int) < (d.cnt.length : Int) := by omega
  have p4 : (0 : Int) ≤ i := by omega
  clear h hi hn
  go_enter Try.func21, Try.ntmps21
  go_wp2
  go_ret
  exact ⟨rfl, rfl⟩
set_option maxRecDepth 100000 in
theorem rRaise_down (h : RefAt w r base d L R) (i : Nat) (hi : i < d.cnt.length) (n : Int) (hn : d.cnt.getD i 0 ≤ n) (hg : d.gone = true) : Calls Try.prog 21 #[.pointer (some ⟨r.B, 0, none⟩), .int .i64 i, .int .i64 n] w fun e w' => e = .returned (.int .i64 5) ∧ RefAt w' r base d.fell L R ∧ Keeps r.fix w w' := by
  have c2 := h.c2
  have cc := h.cnts.cell (i := i) hi
  have HS := Lib.hid (rstep_down h hg)
  generalize d.cnt.getD i 0 = v at *
  have d1 : decide (n < v) = false := by simpa using hn
  have p2 : decide ((d.cnt.length : Int) ≤ (i : Int)) = false := by simp; omega
  have p3 : (i : Int) < (d.cnt.length : Int) := by omega
  have p4 : (0 : Int) ≤ i := by omega
  clear h hi hn hg
  go_enter Try.func21, Try.ntmps21
  go_wp2_with (first
    | (go_at_call 46; refine (HS.out).mono ?_; rintro e w1 ⟨rfl, h1, h2, h3⟩))
  go_ret
  exact ⟨rfl, h1, h2.mono fun k _ e => .inl e⟩
set_option maxRecDepth 100000 in
theorem rRaise_on (h : RefAt w r base d L R) (i : Nat) (hi : i < d.cnt.length) (n : Int) (hn : d.cnt.getD i 0 ≤ n) (hg : d.gone = false) (hm : d.made < 4611686018427387904) (hl : d.left < 9223372036854775808) :
    Calls Try.prog 21 #[.pointer (some ⟨r.B, 0, none⟩), .int .i64 i, .int .i64 n] w fun e w' => e = .returned (.int .i64 0) ∧ (∃ L', RefAt w' r base (d.raised i n) L' R) ∧ Keeps r.fix w w' := by
  have c2 := h.c2
  have cc := h.cnts.cell (i := i) hi
  have HS := Lib.hid (rstep_on h hg hm hl)
  have HI := Lib.hid hi
  generalize hv : d.cnt.getD i 0 = v at *
  have d1 : decide (n < v) = false := by simpa using hn
  have p2 : decide ((d.cnt.length : Int) ≤ (i : Int)) = false := by simp; omega
  have p3 : (i : Int) < (d.cnt.length : Int) := by omega
  have p4 : (0 : Int) ≤ i := by omega
  clear h hi hn hg hm hl hv
  go_enter Try.func21, Try.ntmps21
  go_wp2_with (first
    | (go_at_call 46; refine (HS.out).mono ?_; rintro e w1 ⟨rfl, ⟨L1, h1⟩, h2, h3⟩
       have k2 : w1.cell? ⟨r.B, 2, none⟩ = some (.slice (some ⟨r.cb, 0, none⟩) d.cnt.length d.cnt.length) := h1.c2
       have kc := h1.cnts.cell (i := i) HI.out
       have kf := h1.cnts.free i
       have HD := Lib.hid (h1.setC i n)
       have HK := Lib.hid ((h2.mono (S' := r.fix) fun k _ e => .inl e).setCell (S := r.fix) (.inr (.inr (.inr rfl))) i (.int .i64 n))
       clear h1 h2 h3 HS))
  go_ret
  exact ⟨rfl, ⟨_, HD.out⟩, HK.out⟩
end
end Go.Proofs.Ytbejfpdkfpgipaa

/- The contract of package platter's Flush. Conditions: the disk lies in memory; less than 2^62 steps were made. -/
import Derived.Test.YtbejfpdkfpgipaaPlSettle
namespace Go.Proofs.Ytbejfpdkfpgipaa
open Go.ChangeShapes Go.WideShapes Go.ChangeAt Go.RowKit
set_option linter.unusedVariables false
theorem Size_still {w : World} {b : Blks} {d : Disk} (h : DiskAt w b d) : Calls Try.prog 42 #[.pointer (some ⟨b.B, 0, none⟩)] w fun e w' => e = .returned (.int .i64 d.ns) ∧ w' = w := (Size_ok h).mono fun e w' ⟨h1, h2⟩ => ⟨h1, h2.symm⟩
theorem still_skip {P : Program} {ops : Array Oper} {w : World} {Q : Act → Prop} {a : Act} {o : Oper} {rest : List Oper} (hw : Region.wanted o (yielded ops a.tmps) = false) (h : wpStill P ops w Q rest (a.put o.dst undef)) : wpStill P ops w Q (o :: rest) a :=
  wpStill_step fun K hK => by rw [if_neg (by simp [hw])]; exact hK _ h
theorem below_drewN {M : Nat} {a w : World} (h : Below M a w) (n : Nat) : Below M a (w.drewN n) := ⟨h.os, h.tape, h.output, h.size, h.block⟩
theorem Keeps.drewN {S : Nat → Prop} {a w : World} (h : Keeps S a w) (n : Nat) : Keeps S a (w.drewN n) := ⟨h.os, h.tape, h.output, h.size, h.block⟩
theorem DiskAt.drewN {w : World} {b : Blks} {d : Disk} (h : DiskAt w b d) (n : Nat) : DiskAt (w.drewN n) b d := h.keep fun _ _ => rfl
def askF (i m : Nat) (x : Int) : Bool := decide ((i : Int) ≤ x) && decide (x < ((i + m : Nat) : Int))
theorem box_cell {w : World} {B : Nat} {v : Value} {t : TypeId} (h : w.heap[B]? = some (.cells #[v] t (0, 0))) : w.cell? ⟨B, 0, none⟩ = some v := (cell_of_row _ _ _ _ _ _ h).trans rfl
set_option maxRecDepth 100000 in
theorem Flush1_ok (i m : Nat) (him : i + m ≤ 2048) (w : World) (B C : Nat) (hB : w.cell? ⟨B, 0, none⟩ = some (.int .i64 i)) (hC : w.cell? ⟨C, 0, none⟩ = some (.int .i64 m)) (x : Int) :
    Calls Try.prog 48 #[.int .i64 x, .pointer (some ⟨B, 0, none⟩), .pointer (some ⟨C, 0, none⟩)] w fun e w' => e = .returned (.bool (askF i m x)) ∧ w = w' := by
  unfold askF
  have e1 : IntKind.i64.wrap ((i : Int) + (m : Int)) = ((i + m : Nat) : Int) := by rw [IntWalk.i64_in _ (by omega)]; omega
  generalize i + m = s at *
  clear him
  by_cases h0 : (i : Int) ≤ x
  · have d0 : decide ((i : Int) ≤ x) = true := by simpa using h0
    rw [d0, Bool.true_and]
    clear h0
    go_enter Try.func48, Try.ntmps48
    go_wp2_with fail
    go_ret
    exact ⟨rfl, rfl⟩
  · have d0 : decide ((i : Int) ≤ x) = false := by simpa using h0
    rw [d0, Bool.false_and]
    clear h0
    go_enter Try.func48, Try.ntmps48
    go_wp2_with fail
    go_ret
    exact ⟨rfl, rfl⟩
section
variable {w : World} {b : Blks} {d : Disk}
theorem two_boxes (w : World) (x y : Value) (t : TypeId) : (((w.alloc (.cells #[x] t)).alloc (.cells #[y] t)).heap[w.heap.size]? = some (.cells #[x] t (0, 0))) ∧ (((w.alloc (.cells #[x] t)).alloc (.cells #[y] t)).heap[w.heap.size + 1]? = some (.cells #[y] t (0, 0))) := by
  constructor
  · rw [Below.heap_alloc _ _ _ (by simp)]; exact heap_alloc_new _ _
  · have := heap_alloc_new (w.alloc (.cells #[x] t)) (.cells #[y] t)
    rw [World.size_alloc] at this
    exact this
set_option maxRecDepth 100000 in
set_option maxHeartbeats 1000000 in
theorem Flush_nil (w : World) (x y : Int) : Calls Try.prog 18 #[.pointer none, .int .i64 x, .int .i64 y] w fun e w' => e = .returned (errV 1) ∧ Below w.heap.size w w' := by
  have B0 := Lib.hid (below_two w (.cells #[.int .i64 x] 3) (.cells #[.int .i64 y] 3))
  unfold errV
  go_enter Try.func18, Try.ntmps18
  go_wp2_with fail
  generalize (w.alloc (.cells #[.int .i64 x] 3)).alloc (.cells #[.int .i64 y] 3) = U at *
  go_quiet (fail)
  go_wp2_with fail
  go_ret
  exact ⟨rfl, below_drewN B0.out _⟩

set_option maxRecDepth 100000 in
set_option maxHeartbeats 4000000 in
theorem Flush_range (h : DiskAt w b d) (x y : Int) (hy1 : -9223372036854775808 ≤ y) (hx : ¬ (0 ≤ x ∧ x ≤ d.ns ∧ 0 ≤ y ∧ y ≤ d.ns - x)) : Calls Try.prog 18 #[.pointer (some ⟨b.B, 0, none⟩), .int .i64 x, .int .i64 y] w fun e w' => e = .returned (errV 1) ∧ Below w.heap.size w w' := by
  have B0 := Lib.hid (below_two w (.cells #[.int .i64 x] 3) (.cells #[.int .i64 y] 3))
  have hns := h.ns2
  unfold errV
  by_cases h1 : x < 0
  · have d1 : decide (x < 0) = true := by simpa using h1
    clear hx h1 hns hy1

    have DB := Lib.hid ((h.alloc (.cells #[.int .i64 x] 3)).alloc (.cells #[.int .i64 y] 3))
    go_enter Try.func18, Try.ntmps18
    go_wp2_with fail
    have B1 := Lib.hid (two_boxes w (.int .i64 x) (.int .i64 y) 3)
    generalize (w.alloc (.cells #[.int .i64 x] 3)).alloc (.cells #[.int .i64 y] 3) = U at *
    have k1 := box_cell B1.out.1
    have k2 := box_cell B1.out.2
    have SC := Lib.hid (fun V (hV : ∀ k, V.heap[k]? = U.heap[k]?) => Size_still (DB.out.keep (w' := V) fun k _ => hV k))
    clear h DB B1
    generalize d.ns = nn at *
    go_quiet ((go_at_call 42; refine Calls.quiet_of_same (SC.out _ (fun _ => rfl))))
    go_wp2_with fail
    go_ret
    exact ⟨rfl, below_drewN B0.out _⟩

  have d1 : decide (x < 0) = false := by simpa using h1
  by_cases h2 : (d.ns : Int) < x
  · have d2 : decide ((d.ns : Int) < x) = true := by simpa using h2
    clear hx h1 h2 hns hy1

    have DB := Lib.hid ((h.alloc (.cells #[.int .i64 x] 3)).alloc (.cells #[.int .i64 y] 3))
    go_enter Try.func18, Try.ntmps18
    go_wp2_with fail
    have B1 := Lib.hid (two_boxes w (.int .i64 x) (.int .i64 y) 3)
    generalize (w.alloc (.cells #[.int .i64 x] 3)).alloc (.cells #[.int .i64 y] 3) = U at *
    have k1 := box_cell B1.out.1
    have k2 := box_cell B1.out.2
    have SC := Lib.hid (fun V (hV : ∀ k, V.heap[k]? = U.heap[k]?) => Size_still (DB.out.keep (w' := V) fun k _ => hV k))
    clear h DB B1
    generalize d.ns = nn at *
    go_quiet ((go_at_call 42; refine Calls.quiet_of_same (SC.out _ (fun _ => rfl))))
    go_wp2_with fail
    go_ret
    exact ⟨rfl, below_drewN B0.out _⟩

  have d2 : decide ((d.ns : Int) < x) = false := by simpa using h2
  by_cases h3 : y < 0
  · have d3 : decide (y < 0) = true := by simpa using h3
    clear hx h1 h2 h3 hns hy1

    have DB := Lib.hid ((h.alloc (.cells #[.int .i64 x] 3)).alloc (.cells #[.int .i64 y] 3))
    go_enter Try.func18, Try.ntmps18
    go_wp2_with fail
    have B1 := Lib.hid (two_boxes w (.int .i64 x) (.int .i64 y) 3)
    generalize (w.alloc (.cells #[.int .i64 x] 3)).alloc (.cells #[.int .i64 y] 3) = U at *
    have k1 := box_cell B1.out.1
    have k2 := box_cell B1.out.2
    have SC := Lib.hid (fun V (hV : ∀ k, V.heap[k]? = U.heap[k]?) => Size_still (DB.out.keep (w' := V) fun k _ => hV k))
    clear h DB B1
    generalize d.ns = nn at *
    go_quiet ((go_at_call 42; refine Calls.quiet_of_same (SC.out _ (fun _ => rfl))))
    go_wp2_with fail
    go_ret
    exact ⟨rfl, below_drewN B0.out _⟩

  have d3 : decide (y < 0) = false := by simpa using h3
  have e1 : IntKind.i64.wrap ((d.ns : Int) - x) = (d.ns : Int) - x := IntWalk.i64_in _ (by omega)
  have h4 : (d.ns : Int) - x < y := by omega
  have d4 : decide ((d.ns : Int) - x < y) = true := by simpa using h4
  clear hx h1 h2 h3 h4 hns hy1

  have DB := Lib.hid ((h.alloc (.cells #[.int .i64 x] 3)).alloc (.cells #[.int .i64 y] 3))
  go_enter Try.func18, Try.ntmps18
  go_wp2_with fail
  have B1 := Lib.hid (two_boxes w (.int .i64 x) (.int .i64 y) 3)
  generalize (w.alloc (.cells #[.int .i64 x] 3)).alloc (.cells #[.int .i64 y] 3) = U at *
  have k1 := box_cell B1.out.1
  have k2 := box_cell B1.out.2
  have SC := Lib.hid (fun V (hV : ∀ k, V.heap[k]? = U.heap[k]?) => Size_still (DB.out.keep (w' := V) fun k _ => hV k))
  clear h DB B1
  generalize d.ns = nn at *
  go_quiet ((go_at_call 42; refine Calls.quiet_of_same (SC.out _ (fun _ => rfl))))
  go_wp2_with fail
  go_ret
  exact ⟨rfl, below_drewN B0.out _⟩

set_option maxRecDepth 100000 in
set_option maxHeartbeats 1000000 in
theorem Flush_down (h : DiskAt w b d) (i m : Nat) (him : i + m ≤ d.ns) (hg : d.gone = true) : Calls Try.prog 18 #[.pointer (some ⟨b.B, 0, none⟩), .int .i64 i, .int .i64 m] w fun e w' => e = .returned (errV 5) ∧ DiskAt w' b d.fell ∧ Keeps b.own w w' := by
  have hns := h.ns2
  have d1 : decide ((i : Int) < 0) = false := by simp
  have d2 : decide ((d.ns : Int) < (i : Int)) = false := by simp; omega
  have d2b : decide (d.ns < i) = false := by simp; omega
  have d3 : decide ((m : Int) < 0) = false := by simp
  have e1 : IntKind.i64.wrap ((d.ns : Int) - (i : Int)) = ((d.ns - i : Nat) : Int) := by rw [IntWalk.i64_in _ (by omega)]; omega
  have d4 : decide (((d.ns - i : Nat) : Int) < (m : Int)) = false := by simp; omega
  have d4b : decide ((d.ns - i : Nat) < m) = false := by simp; omega
  have DB := Lib.hid ((h.alloc (.cells #[.int .i64 (i : Int)] 3)).alloc (.cells #[.int .i64 (m : Int)] 3))
  have B1 := Lib.hid (two_boxes w (.int .i64 (i : Int)) (.int .i64 (m : Int)) 3)
  have KU := Lib.hid (((Keeps.refl b.own w).alloc (.cells #[.int .i64 (i : Int)] 3)).alloc (.cells #[.int .i64 (m : Int)] 3))
  obtain ⟨U, hU⟩ : ∃ U, (w.alloc (.cells #[.int .i64 (i : Int)] 3)).alloc (.cells #[.int .i64 (m : Int)] 3) = U := ⟨_, rfl⟩
  rw [hU] at DB B1 KU
  have HS := Lib.hid (fun n => step_down (DB.out.drewN n) hg)
  unfold errV at HS ⊢
  clear h him hg hns
  go_enter Try.func18, Try.ntmps18
  go_wp2_with fail
  clear hU
  have k1 := box_cell B1.out.1
  have k2 := box_cell B1.out.2
  have SC := Lib.hid (fun V (hV : ∀ k, V.heap[k]? = U.heap[k]?) => Size_still (DB.out.keep (w' := V) fun k _ => hV k))
  generalize d.ns - i = q at *
  generalize hnn : d.ns = nn at *
  clear hnn
  go_quiet ((go_at_call 42; refine Calls.quiet_of_same (SC.out _ (fun _ => rfl))))
  go_wp2_with (first
    | (go_at_call 45; refine (HS.out _).mono ?_; rintro e w1 ⟨rfl, h1, h2, h3⟩))
  go_ret
  exact ⟨rfl, h1, (KU.out.drewN _).trans (h2.mono fun k _ e => .inl e)⟩
set_option maxRecDepth 100000 in
set_option maxHeartbeats 1000000 in
theorem Flush_on (h : DiskAt w b d) (i m : Nat) (him : i + m ≤ d.ns) (hg : d.gone = false) (hmm : d.made < 4611686018427387904) (hl : d.left < 9223372036854775808) :
    Calls Try.prog 18 #[.pointer (some ⟨b.B, 0, none⟩), .int .i64 i, .int .i64 m] w fun e w' => e = .returned .nilIface ∧ DiskAt w' b (d.went.settled (askF i m)) ∧ Keeps b.own w w' := by
  have hns := h.ns2
  have d1 : decide ((i : Int) < 0) = false := by simp
  have d2 : decide ((d.ns : Int) < (i : Int)) = false := by simp; omega
  have d2b : decide (d.ns < i) = false := by simp; omega
  have d3 : decide ((m : Int) < 0) = false := by simp
  have e1 : IntKind.i64.wrap ((d.ns : Int) - (i : Int)) = ((d.ns - i : Nat) : Int) := by rw [IntWalk.i64_in _ (by omega)]; omega
  have d4 : decide (((d.ns - i : Nat) : Int) < (m : Int)) = false := by simp; omega
  have d4b : decide ((d.ns - i : Nat) < m) = false := by simp; omega
  have DB := Lib.hid ((h.alloc (.cells #[.int .i64 (i : Int)] 3)).alloc (.cells #[.int .i64 (m : Int)] 3))
  have B1 := Lib.hid (two_boxes w (.int .i64 (i : Int)) (.int .i64 (m : Int)) 3)
  have KU := Lib.hid (((Keeps.refl b.own w).alloc (.cells #[.int .i64 (i : Int)] 3)).alloc (.cells #[.int .i64 (m : Int)] 3))
  obtain ⟨U, hU⟩ : ∃ U, (w.alloc (.cells #[.int .i64 (i : Int)] 3)).alloc (.cells #[.int .i64 (m : Int)] 3) = U := ⟨_, rfl⟩
  rw [hU] at DB B1 KU
  have HS := Lib.hid (fun n => step_on (DB.out.drewN n) hg hmm hl)
  have HI := Lib.hid (show i + m ≤ 2048 by omega)
  have NW := Lib.hid (show ¬ b.own w.heap.size ∧ ¬ b.own (w.heap.size + 1) from ⟨fun e => absurd (h.lt e) (Nat.lt_irrefl _), fun e => by have := h.lt e; omega⟩)
  clear h him hg hns hmm hl
  go_enter Try.func18, Try.ntmps18
  go_wp2_with fail
  clear hU
  have k1 := box_cell B1.out.1
  have k2 := box_cell B1.out.2
  have SC := Lib.hid (fun V (hV : ∀ k, V.heap[k]? = U.heap[k]?) => Size_still (DB.out.keep (w' := V) fun k _ => hV k))
  generalize d.ns - i = q at *
  generalize hnn : d.ns = nn at *
  clear hnn
  go_quiet ((go_at_call 42; refine Calls.quiet_of_same (SC.out _ (fun _ => rfl))))
  go_wp2_with (first
    | (go_at_call 45; refine (HS.out _).mono ?_; rintro e w1 ⟨rfl, h1, h2, h3⟩; have H1 := Lib.hid h1; have H2 := Lib.hid h2; clear h1 h2 h3 HS)
    | (go_at_call 47
       have q1 := H2.out.cells (show (U.drewN _).heap[w.heap.size]? = some (.cells #[.int .i64 (i : Int)] 3 (0, 0)) from B1.out.1) (fun e => NW.out.1 (.inl e))
       have q2 := H2.out.cells (show (U.drewN _).heap[w.heap.size + 1]? = some (.cells #[.int .i64 (m : Int)] 3 (0, 0)) from B1.out.2) (fun e => NW.out.2 (.inl e))
       have nS : ¬ sbmb b w.heap.size := fun e => NW.out.1 (e.elim (fun e => .inr (.inl e)) (fun e => .inr (.inr (.inl e))))
       have nS1 : ¬ sbmb b (w.heap.size + 1) := fun e => NW.out.2 (e.elim (fun e => .inr (.inl e)) (fun e => .inr (.inr (.inl e))))
       refine (settle_ok H1.out 48 #[.pointer (some ⟨w.heap.size, 0, none⟩), .pointer (some ⟨w.heap.size + 1, 0, none⟩)] (askF i m) ?eg ?ask).mono ?_
       case eg => exact enters_of Try.func48 (by kernel_rfl) rfl
       case ask => exact fun x W hx1 hx2 hK => Flush1_ok i m HI.out W _ _ (box_cell (hK.cells q1 nS)) (box_cell (hK.cells q2 nS1)) x
       rintro e w2 ⟨rfl, h4, h5⟩
       clear q1 q2 nS nS1))
  go_ret
  exact ⟨rfl, h4, ((KU.out.drewN _).trans (H2.out.mono fun k _ e => .inl e)).trans (h5.mono fun k _ e => e.elim (fun e => .inr (.inl e)) (fun e => .inr (.inr (.inl e))))⟩
end
end Go.Proofs.Ytbejfpdkfpgipaa

/- The contract of the document's Crash. Condition: the disk lies in memory. -/
import Derived.Test.YtbejfpdkfpgipaaPlRefD
namespace Go.Proofs.Ytbejfpdkfpgipaa
open Go.ChangeShapes Go.WideShapes Go.ChangeAt Go.RowKit
set_option linter.unusedVariables false
theorem lt_of_cell {w : World} {B o : Nat} {v : Value} (h : w.cell? ⟨B, o, none⟩ = some v) : B < w.heap.size := block_lt_of_cell h
/-- The sectors below k are forgotten. -/
def Disk.lost (d : Disk) (k : Nat) : Disk := { d with opn := fun x => if x < (k : Int) then none else d.opn x }
/-- Behind k of the kept ones. -/
def Disk.keptK (d : Disk) (l : List Int) : Disk := d.settled (fun x => l.contains x)
theorem kept_skip {d : Disk} {l : List Int} {x : Int} (hw : ∀ y, (d.opn y).isSome = true → 0 ≤ y ∧ y < d.ns) (hx : ¬ (0 ≤ x ∧ x < d.ns)) : d.keptK (l ++ [x]) = d.keptK l := by
  have hn : d.opn x = none := by
    cases hq : d.opn x with
    | none => rfl
    | some v => exact absurd (hw x (by rw [hq]; rfl)) hx
  have e : ∀ y, y ≠ x → (l ++ [x]).contains y = l.contains y := fun y hy => by simp [hy]
  refine disk_ext rfl rfl rfl rfl rfl (fun i => ?_) (fun y => ?_) rfl
  · show (if (l ++ [x]).contains (i : Int) then (d.opn i).getD (d.sure i) else d.sure i) = (if l.contains (i : Int) then (d.opn i).getD (d.sure i) else d.sure i)
    by_cases h : (i : Int) = x
    · rw [h, hn]; simp
    · rw [e _ h]
  · show (if (l ++ [x]).contains y then none else d.opn y) = (if l.contains y then none else d.opn y)
    by_cases h : y = x
    · rw [h, hn]; simp
    · rw [e _ h]
theorem kept_more {d : Disk} {l : List Int} {k : Nat} : (d.keptK l).sureOne k = d.keptK (l ++ [(k : Int)]) := by
  have e : ∀ y, y ≠ (k : Int) → (l ++ [(k : Int)]).contains y = l.contains y := fun y hy => by simp [hy]
  have e1 : (l ++ [(k : Int)]).contains (k : Int) = true := by simp
  refine disk_ext rfl rfl rfl rfl rfl (fun i => ?_) (fun y => ?_) rfl
  · show (if i = k then (if l.contains (k : Int) then none else d.opn k).getD (if l.contains (k : Int) then (d.opn k).getD (d.sure k) else d.sure k) else if l.contains (i : Int) then (d.opn i).getD (d.sure i) else d.sure i) = (if (l ++ [(k : Int)]).contains (i : Int) then (d.opn i).getD (d.sure i) else d.sure i)
    by_cases h : i = k
    · subst h
      rw [if_pos rfl, e1]
      cases l.contains (i : Int) <;> rfl
    · rw [if_neg h, e _ (by omega)]
  · show (if y = (k : Int) then none else if l.contains y then none else d.opn y) = (if (l ++ [(k : Int)]).contains y then none else d.opn y)
    by_cases h : y = (k : Int)
    · subst h; rw [if_pos rfl, e1]; rfl
    · rw [if_neg h, e _ h]
theorem kept_none (d : Disk) : d.keptK [] = d := disk_ext rfl rfl rfl rfl rfl (fun i => rfl) (fun x => rfl) rfl
theorem lost_none {d : Disk} (hw : ∀ y, (d.opn y).isSome = true → 0 ≤ y ∧ y < d.ns) : d.lost 0 = d := disk_ext rfl rfl rfl rfl rfl (fun i => rfl) (fun x => by
  show (if x < ((0 : Nat) : Int) then none else d.opn x) = d.opn x
  split
  · cases hq : d.opn x with
    | none => rfl
    | some v => have := hw x (by rw [hq]; rfl); omega
  · rfl) rfl
theorem lost_step {d : Disk} {k : Nat} : ({ d.lost k with opn := fun x => if x = (k : Int) then none else (d.lost k).opn x } : Disk) = d.lost (k + 1) := disk_ext rfl rfl rfl rfl rfl (fun i => rfl) (fun x => by
  show (if x = (k : Int) then none else if x < (k : Int) then none else d.opn x) = (if x < ((k + 1 : Nat) : Int) then none else d.opn x)
  by_cases h : x < ((k + 1 : Nat) : Int)
  · rw [if_pos h]
    by_cases h2 : x = (k : Int)
    · rw [if_pos h2]
    · rw [if_neg h2, if_pos (by omega)]
  · rw [if_neg h, if_neg (by omega), if_neg (by omega)]) rfl
theorem lost_all {d : Disk} {l : List Int} (hw : ∀ y, ((d.keptK l).opn y).isSome = true → 0 ≤ y ∧ y < d.ns) : ({ (d.keptK l).lost d.ns with armed := false, left := 0, down := false } : Disk) = d.crashed l := disk_ext rfl rfl rfl rfl rfl (fun i => rfl) (fun x => by
  show (if x < (d.ns : Int) then none else (d.keptK l).opn x) = none
  split
  · rfl
  · cases hq : (d.keptK l).opn x with
    | none => rfl
    | some v => have := hw x (by rw [hq]; rfl); omega) rfl
section
variable {w : World} {r : RBlk} {base : Nat} {d : Disk} {L : Nat} {R : Since}
theorem RefAt.anyLeft (h : RefAt w r base d L R) (ha : d.armed = false) (x : Nat) : RefAt w r base { d with left := x } L R :=
  ⟨h.plat, fun e => absurd (show d.armed = true from e) (by rw [ha]; simp), h.sect, h.rows, h.cnts, h.lt, h.ne1, h.ne2, h.ne3, h.ne4, h.ne5, h.ne6, h.wf, h.ns1, h.ns2, h.nc⟩
set_option maxRecDepth 100000 in
set_option maxHeartbeats 1000000 in
theorem rCrash_ok (h : RefAt w r base d L R) (p : Option Addr) (l : List Int) (cap : Nat) (hl : IntsAt w p l) (hll : l.length ≤ 1000000) (hnb : ∀ B o, p = some ⟨B, o, none⟩ → l ≠ [] → ¬ r.fix B) :
    Calls Try.prog 30 #[.pointer (some ⟨r.B, 0, none⟩), .slice p l.length cap] w fun e w' => e = .returned (.tuple #[]) ∧ (∃ L' R', RefAt w' r base (d.crashed l) L' R') ∧ Keeps r.fix w w' := by
  have HW := Lib.hid h.wf
  have HNS := Lib.hid h.ns2
  have H0 := Lib.hid h
  have HI := Lib.hid hl
  have HLL := Lib.hid hll
  have HNB := Lib.hid hnb
  clear h hl hll hnb
  go_enter Try.func30, Try.ntmps30
  go_wp2
  go_loopw [4] (fun v4 wr => ∃ k : Nat, k ≤ l.length ∧ v4 = .int .i64 k ∧ (∃ R', RefAt wr r base (d.keptK (l.take k)) L R') ∧ Keeps r.fix w wr) (fun v4 _ => l.length - (intOf v4).toNat)
  case atStart => exact ⟨0, Nat.zero_le _, rfl, ⟨R, by rw [List.take_zero, kept_none]; exact H0.out⟩, .refl _ _⟩
  case round =>
    obtain ⟨k, hk, rfl, ⟨R2, hr⟩, hk2⟩ := hrel
    have HR := Lib.hid hr
    have HK := Lib.hid hk2
    have c0 : wr.cell? ⟨r.B, 0, none⟩ = some (.slice (some ⟨r.sb, 0, none⟩) d.ns d.ns) := hr.c0
    clear hr
    by_cases hlt : k < l.length
    · rcases HI.out with he | ⟨B, o, rfl, hB, hc⟩
      · rw [he] at hlt; exact absurd hlt (Nat.not_lt_zero _)
      have cl := (World.cell?_of_block (w := w) (w' := wr) (a := ⟨B, o + k, none⟩) (hk2.block B hB (HNB.out B o rfl (fun e => by rw [e] at hlt; exact absurd hlt (Nat.not_lt_zero _))))).trans (hc k hlt)
      have HLT := Lib.hid hlt
      have f1 : (k : Int) < (l.length : Int) := by omega
      have f2 : (0 : Int) ≤ k := by omega
      have f3 : IntKind.i64.wrap ((k : Int) + 1) = ((k + 1 : Nat) : Int) := by have := HLL.out; rw [IntWalk.i64_in _ (by omega)]; omega
      have HT := Lib.hid (take_step l hlt)
      clear hc hB hlt hk2
      generalize l.getD k 0 = x at *
      by_cases hx : 0 ≤ x ∧ x < d.ns
      · obtain ⟨i, rfl⟩ : ∃ i : Nat, x = (i : Int) := ⟨x.toNat, by omega⟩
        have HX := Lib.hid (show i < d.ns by omega)
        have g1 : (0 : Int) ≤ (i : Int) := by omega
        have g2 : decide ((0 : Int) ≤ (i : Int)) = true := by simp
        have g3 : decide ((i : Int) < (d.ns : Int)) = true := by simp; omega
        have g3b : decide (i < d.ns) = true := by simp; omega
        have HM := Lib.hid (kept_more (d := d) (l := l.take k) (k := i))
        clear hx
        go_wp2
        go_quiet (fail)
        have BD := Lib.hid (below_drewN (Below.refl wr.heap.size wr) nq)
        have HRd := Lib.hid (HR.out.below BD.out)
        have HKd := Lib.hid (HK.out.trans (Keeps.of BD.out))
        have cld := (BD.out.cell (p := ⟨B, o + k, none⟩) (lt_of_cell cl)).trans cl
        clear BD HR HK
        generalize wr.drewN nq = wd at *
        go_wp2_with (first
          | (go_at_call 49; refine (rsettle_ok HRd.out i HX.out).mono ?_; rintro e w2 ⟨rfl, h1, h2⟩
             rw [HM.out, ← HT.out] at h1
             have D2 := Lib.hid h1
             have K2 := Lib.hid (HKd.out.trans h2)
             clear h1 h2))
        go_roundw
        case rel => exact ⟨k + 1, HLT.out, by go_num, ⟨_, D2.out⟩, K2.out⟩
        case measure => have := HLT.out; simp [intOf]; omega
      · have HS := Lib.hid (show d.keptK (l.take (k + 1)) = d.keptK (l.take k) from by rw [HT.out]; exact kept_skip HW.out hx)
        by_cases hx0 : 0 ≤ x
        · have g2 : decide ((0 : Int) ≤ x) = true := by simpa using hx0
          have g3 : decide (x < (d.ns : Int)) = false := by simp; omega
          clear hx
          go_wp2
          go_quiet (fail)
          have BD := Lib.hid (below_drewN (Below.refl wr.heap.size wr) nq)
          have HRd := Lib.hid (HR.out.below BD.out)
          have HKd := Lib.hid (HK.out.trans (Keeps.of BD.out))
          have cld := (BD.out.cell (p := ⟨B, o + k, none⟩) (lt_of_cell cl)).trans cl
          clear BD HR HK
          generalize wr.drewN nq = wd at *
          go_wp2
          go_roundw
          case rel => exact ⟨k + 1, HLT.out, by go_num, ⟨_, by rw [HS.out]; exact HRd.out⟩, HKd.out⟩
          case measure => have := HLT.out; simp [intOf]; omega
        · have g2 : decide ((0 : Int) ≤ x) = false := by simpa using hx0
          clear hx
          go_wp2
          go_quiet (fail)
          have BD := Lib.hid (below_drewN (Below.refl wr.heap.size wr) nq)
          have HRd := Lib.hid (HR.out.below BD.out)
          have HKd := Lib.hid (HK.out.trans (Keeps.of BD.out))
          have cld := (BD.out.cell (p := ⟨B, o + k, none⟩) (lt_of_cell cl)).trans cl
          clear BD HR HK
          generalize wr.drewN nq = wd at *
          go_wp2
          go_roundw
          case rel => exact ⟨k + 1, HLT.out, by go_num, ⟨_, by rw [HS.out]; exact HRd.out⟩, HKd.out⟩
          case measure => have := HLT.out; simp [intOf]; omega
    · have f1 : ¬ (k : Int) < (l.length : Int) := by omega
      obtain rfl : k = l.length := by omega
      rw [List.take_of_length_le (Nat.le_refl _)] at HR
      clear hk2 hlt hk
      go_wp2
      go_loopw [5] (fun v5 wr => ∃ k : Nat, k ≤ d.ns ∧ v5 = .int .i64 k ∧ (∃ R', RefAt wr r base ((d.keptK l).lost k) L R') ∧ Keeps r.fix w wr) (fun v5 _ => d.ns - (intOf v5).toNat)
      case atStart => exact ⟨0, Nat.zero_le _, rfl, ⟨R2, by rw [lost_none HR.out.wf]; exact HR.out⟩, HK.out⟩
      case round =>
        obtain ⟨k, hk, rfl, ⟨R3, hr⟩, hk2⟩ := hrel
        have HQ := Lib.hid hr
        have HK2 := Lib.hid hk2
        have k1 : wr.cell? ⟨r.B, 1, none⟩ = some (.slice (some ⟨r.zb, 0, none⟩) d.ns d.ns) := hr.c1
        clear hr hk2
        by_cases hlt : k < d.ns
        · have kz := HQ.out.slot (i := k) hlt
          have kf : wr.frozen? ⟨r.zb, k, none⟩ = false := frozen_of_row _ _ _ _ _ HQ.out.rows.tab
          have HLT := Lib.hid hlt
          have f1 : (k : Int) < (d.ns : Int) := by omega
          have f2 : (0 : Int) ≤ k := by omega
          have f3 : IntKind.i64.wrap ((k : Int) + 1) = ((k + 1 : Nat) : Int) := by have := HNS.out; rw [IntWalk.i64_in _ (by omega)]; omega
          have D2 := Lib.hid (HQ.out.forget k hlt)
          have K2 := Lib.hid (HK2.out.setCell (S := r.fix) (B := r.zb) (.inr (.inr (.inl rfl))) k (.slice none 0 0))
          clear hlt HQ HK2 HR HK
          go_wp2
          go_roundw
          case rel => exact ⟨k + 1, HLT.out, by go_num, ⟨_, lost_step ▸ D2.out⟩, K2.out⟩
          case measure => have := HLT.out; simp [intOf]; omega
        · have f1 : ¬ (k : Int) < (d.ns : Int) := by omega
          obtain rfl : k = d.ns := by omega
          have u6 := HQ.out.free 6
          have h1 := HQ.out.setB 6 (.bool false) { (d.keptK l).lost d.ns with down := false } L rfl (fun e => HQ.out.left e) rfl rfl rfl rfl (Nat.le_refl _)
          have u4 := h1.free 4
          have c4 := h1.c4
          have c6 := HQ.out.c6
          have h2 := h1.setB 4 (.bool false) { (d.keptK l).lost d.ns with armed := false, down := false } L rfl (fun e => by cases e) rfl rfl rfl rfl (Nat.le_refl _)
          have HZ := Lib.hid (h2)
          have K2 := Lib.hid ((HK2.out.setCell (S := r.fix) (B := r.B) (.inl rfl) 6 (.bool false)).setCell (S := r.fix) (B := r.B) (.inl rfl) 4 (.bool false))
          have HWK := Lib.hid (lost_all (d := d) (l := l) HR.out.wf)
          clear h1 h2 hlt hk HQ HK2 HK
          go_wp2
          go_end0
          exact ⟨rfl, ⟨L, R3, HWK.out ▸ HZ.out.anyLeft rfl 0⟩, K2.out⟩
end
end Go.Proofs.Ytbejfpdkfpgipaa

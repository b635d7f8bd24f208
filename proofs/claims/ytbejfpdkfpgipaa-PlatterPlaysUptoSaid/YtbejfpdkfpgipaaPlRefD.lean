/- The contracts of the document's Flush. Conditions: the disk lies in memory; less than 2^62 steps were made. -/
import Derived.Test.YtbejfpdkfpgipaaPlRefC
namespace Go.Proofs.Ytbejfpdkfpgipaa
open Go.ChangeShapes Go.WideShapes Go.ChangeAt Go.RowKit
set_option linter.unusedVariables false
theorem disk_ext {d e : Disk} (h1 : d.made = e.made) (h2 : d.armed = e.armed) (h3 : d.left = e.left) (h4 : d.down = e.down) (h5 : d.ns = e.ns) (h6 : ∀ i, d.sure i = e.sure i) (h7 : ∀ x, d.opn x = e.opn x) (h8 : d.cnt = e.cnt) : d = e := by
  cases d; cases e
  simp only at h1 h2 h3 h4 h5 h6 h7 h8
  subst h1; subst h2; subst h3; subst h4; subst h5; subst h8
  congr
  · exact funext h6
  · exact funext h7
theorem settled_none (d : Disk) (a : Nat) : d.settled (askF a 0) = d := by
  have e : ∀ x : Int, askF a 0 x = false := fun x => by unfold askF; simp
  refine disk_ext rfl rfl rfl rfl rfl (fun i => ?_) (fun x => ?_) rfl
  · show (if askF a 0 (i : Int) then (d.opn i).getD (d.sure i) else d.sure i) = _
    rw [e]; rfl
  · show (if askF a 0 x then none else d.opn x) = _
    rw [e]; rfl
theorem settled_step (d : Disk) (a k : Nat) : (d.settled (askF a k)).sureOne (a + k) = d.settled (askF a (k + 1)) := by
  have e0 : askF a k ((a + k : Nat) : Int) = false := by unfold askF; simp
  have e1 : askF a (k + 1) ((a + k : Nat) : Int) = true := by unfold askF; simp; omega
  have e2 : ∀ x : Int, x ≠ ((a + k : Nat) : Int) → askF a (k + 1) x = askF a k x := fun x hx => by
    unfold askF
    rw [show decide (x < ((a + (k + 1) : Nat) : Int)) = decide (x < ((a + k : Nat) : Int)) from decide_eq_decide.2 (by omega)]
  refine disk_ext rfl rfl rfl rfl rfl (fun i => ?_) (fun x => ?_) rfl
  · show (if i = a + k then (if askF a k ((a + k : Nat) : Int) then none else d.opn ((a + k : Nat) : Int)).getD (if askF a k ((a + k : Nat) : Int) then (d.opn ((a + k : Nat) : Int)).getD (d.sure (a + k)) else d.sure (a + k)) else if askF a k (i : Int) then (d.opn i).getD (d.sure i) else d.sure i) = (if askF a (k + 1) (i : Int) then (d.opn i).getD (d.sure i) else d.sure i)
    by_cases h : i = a + k
    · subst h; rw [if_pos rfl, e0, e1]; rfl
    · rw [if_neg h, e2 _ (by omega)]
  · show (if x = ((a + k : Nat) : Int) then none else if askF a k x then none else d.opn x) = (if askF a (k + 1) x then none else d.opn x)
    by_cases h : x = ((a + k : Nat) : Int)
    · subst h; rw [if_pos rfl, e1]; rfl
    · rw [if_neg h, e2 _ h]
section
variable {w : World} {r : RBlk} {base : Nat} {d : Disk} {L : Nat} {R : Since}
set_option maxRecDepth 100000 in
theorem rFlush_range (h : RefAt w r base d L R) (x y : Int) (hx : ¬ (0 ≤ x ∧ x ≤ d.ns ∧ 0 ≤ y ∧ y ≤ d.ns - x)) : Calls Try.prog 19 #[.pointer (some ⟨r.B, 0, none⟩), .int .i64 x, .int .i64 y] w fun e w' => e = .returned (.int .i64 1) ∧ w = w' := by
  have c0 := h.c0
  have hns := h.ns2
  clear h
  by_cases h1 : x < 0
  · have p1 : decide (x < 0) = true := by simpa using h1
    clear hx h1
    go_enter Try.func19, Try.ntmps19
    go_wp2
    go_ret
    exact ⟨rfl, rfl⟩
  have p1 : decide (x < 0) = false := by simpa using h1
  by_cases h2 : y < 0
  · have p2 : decide (y < 0) = true := by simpa using h2
    clear hx h1 h2
    go_enter Try.func19, Try.ntmps19
    go_wp2
    go_ret
    exact ⟨rfl, rfl⟩
  have p2 : decide (y < 0) = false := by simpa using h2
  by_cases h3 : (d.ns : Int) < x
  · have p3 : decide ((d.ns : Int) < x) = true := by simpa using h3
    clear hx h1 h2 h3
    go_enter Try.func19, Try.ntmps19
    go_wp2
    go_ret
    exact ⟨rfl, rfl⟩
  have p3 : decide ((d.ns : Int) < x) = false := by simpa using h3
  have p4 : IntKind.i64.wrap ((d.ns : Int) - x) = (d.ns : Int) - x := IntWalk.i64_in _ (by omega)
  have p5 : decide ((d.ns : Int) - x < y) = true := by simp; omega
  clear hx h1 h2 h3
  go_enter Try.func19, Try.ntmps19
  go_wp2
  go_ret
  exact ⟨rfl, rfl⟩
set_option maxRecDepth 100000 in
theorem rFlush_down (h : RefAt w r base d L R) (i m : Nat) (him : i + m ≤ d.ns) (hg : d.gone = true) : Calls Try.prog 19 #[.pointer (some ⟨r.B, 0, none⟩), .int .i64 i, .int .i64 m] w fun e w' => e = .returned (.int .i64 5) ∧ RefAt w' r base d.fell L R ∧ Keeps r.fix w w' := by
  have c0 := h.c0
  have hns := h.ns2
  have HS := Lib.hid (rstep_down h hg)
  have p1 : decide ((i : Int) < 0) = false := by simp
  have p2 : decide ((m : Int) < 0) = false := by simp
  have p3 : decide ((d.ns : Int) < (i : Int)) = false := by simp; omega
  have p3b : decide (d.ns < i) = false := by simp; omega
  have p4 : IntKind.i64.wrap ((d.ns : Int) - (i : Int)) = ((d.ns - i : Nat) : Int) := by rw [IntWalk.i64_in _ (by omega)]; omega
  have p5 : decide (((d.ns - i : Nat) : Int) < (m : Int)) = false := by simp; omega
  have p5b : decide (d.ns - i < m) = false := by simp; omega
  clear h hg him
  go_enter Try.func19, Try.ntmps19
  go_wp2_with (first
    | (go_at_call 46; refine (HS.out).mono ?_; rintro e w1 ⟨rfl, h1, h2, h3⟩
       have D1 := Lib.hid h1
       have K1 := Lib.hid (h2.mono (S' := r.fix) fun k _ e => .inl e)
       clear h1 h2 h3))
  go_loopw [8] (fun v8 wr => w1 = wr) (fun _ _ => 0)
  case atStart => exact rfl
  case round =>
    subst hrel
    go_wp2
    go_ret
    exact ⟨rfl, D1.out, K1.out⟩
set_option maxRecDepth 100000 in
theorem rFlush_on (h : RefAt w r base d L R) (i m : Nat) (him : i + m ≤ d.ns) (hg : d.gone = false) (hm : d.made < 4611686018427387904) (hl : d.left < 9223372036854775808) :
    Calls Try.prog 19 #[.pointer (some ⟨r.B, 0, none⟩), .int .i64 i, .int .i64 m] w fun e w' => e = .returned (.int .i64 0) ∧ (∃ L' R', RefAt w' r base (d.went.settled (askF i m)) L' R') ∧ Keeps r.fix w w' := by
  have c0 := h.c0
  have hns := h.ns2
  have HS := Lib.hid (rstep_on h hg hm hl)
  have p1 : decide ((i : Int) < 0) = false := by simp
  have p2 : decide ((m : Int) < 0) = false := by simp
  have p3 : decide ((d.ns : Int) < (i : Int)) = false := by simp; omega
  have p3b : decide (d.ns < i) = false := by simp; omega
  have p4 : IntKind.i64.wrap ((d.ns : Int) - (i : Int)) = ((d.ns - i : Nat) : Int) := by rw [IntWalk.i64_in _ (by omega)]; omega
  have p5 : decide (((d.ns - i : Nat) : Int) < (m : Int)) = false := by simp; omega
  have p5b : decide (d.ns - i < m) = false := by simp; omega
  have HIM := Lib.hid (show i + m ≤ d.ns ∧ d.ns ≤ 2048 from ⟨him, hns⟩)
  clear h hg him hm hl
  go_enter Try.func19, Try.ntmps19
  go_wp2_with (first
    | (go_at_call 46; refine (HS.out).mono ?_; rintro e w1 ⟨rfl, ⟨L1, h1⟩, h2, h3⟩
       have D1 := Lib.hid h1
       have K1 := Lib.hid (h2.mono (S' := r.fix) fun k _ e => .inl e)
       clear h1 h2 h3))
  go_loopw [8] (fun v8 wr => ∃ k : Nat, k ≤ m ∧ v8 = .int .i64 ((i + k : Nat) : Int) ∧ (∃ R', RefAt wr r base (d.went.settled (askF i k)) L1 R') ∧ Keeps r.fix w wr) (fun v8 _ => i + m - (intOf v8).toNat)
  case atStart => exact ⟨0, Nat.zero_le _, rfl, ⟨R, by rw [settled_none]; exact D1.out⟩, K1.out⟩
  case round =>
    obtain ⟨k, hk, rfl, ⟨R2, hr⟩, hk2⟩ := hrel
    have HR := Lib.hid hr
    have HK := Lib.hid hk2
    have HST := Lib.hid (settled_step d.went i k)
    have q1 : IntKind.i64.wrap ((i : Int) + (m : Int)) = ((i + m : Nat) : Int) := by have := HIM.out; rw [IntWalk.i64_in _ (by omega)]; omega
    clear hr hk2 D1 K1 p1 p2 p3 p3b p4 p5 p5b hns
    by_cases hlt : k < m
    · have HLT := Lib.hid hlt
      have HIK := Lib.hid (show i + k < d.ns by have := HIM.out; omega)
      generalize hik : i + k = j at *
      generalize him : i + m = e at *
      have q2 : decide ((j : Int) < (e : Int)) = true := by simp; omega
      have q2b : decide (j < e) = true := by simp; omega
      have q3 : IntKind.i64.wrap ((j : Int) + 1) = ((j + 1 : Nat) : Int) := by have := HIM.out; rw [IntWalk.i64_in _ (by omega)]; omega
      have HJ := Lib.hid hik
      have HE := Lib.hid him
      clear hlt hk hik him
      go_wp2_with (first
        | (go_at_call 49; refine (rsettle_ok HR.out j HIK.out).mono ?_; rintro e w2 ⟨rfl, h1, h2⟩
           rw [HST.out] at h1
           have D2 := Lib.hid h1
           have K2 := Lib.hid (HK.out.trans h2)
           clear h1 h2))
      go_roundw
      case rel => exact ⟨k + 1, HLT.out, by have := HJ.out; go_num, ⟨_, D2.out⟩, K2.out⟩
      case measure => have := HLT.out; have := HJ.out; have := HE.out; simp [intOf]; omega
    · obtain rfl : k = m := by omega
      generalize i + k = j at *
      have q2 : decide ((j : Int) < (j : Int)) = false := by simp
      clear hlt hk
      go_wp2
      go_ret
      exact ⟨rfl, ⟨_, _, HR.out⟩, HK.out⟩
end
end Go.Proofs.Ytbejfpdkfpgipaa

/- PlatterArmed: just so many steps are made as a disk is armed with, for every number and every list of kinds. No condition. -/
import Derived.Test.YtbejfpdkfpgipaaPlAlive
import Derived.Test.YtbejfpdkfpgipaaPlArgs
import Derived.Test.YtbejfpdkfpgipaaPlErr
namespace Go.Proofs.Ytbejfpdkfpgipaa.platterArmed
open Go.ChangeShapes Go.WideShapes Go.ChangeAt Go.RowKit
set_option linter.unusedVariables false
theorem own : ownKnob Try.prog.godebug = none := by kernel_rfl
/-- The disk, after k rounds, armed with N. -/
structure St (wr : World) (b : Blks) (N k : Nat) (d : Disk) : Prop where
  at' : DiskAt wr b d
  ns : d.ns = 4
  cnt : ∃ v : Nat, d.cnt = [0, (v : Int)] ∧ v ≤ k
  armed : d.armed = true
  on : k ≤ N → d.made = k ∧ d.left = N - k ∧ d.down = false
  off : N < k → d.made = N ∧ d.left = 0 ∧ d.down = true
namespace St
variable {wr w' : World} {b : Blks} {N k : Nat} {d : Disk}
theorem goes (h : St wr b N k d) (hk : k < N) : d.gone = false := by
  obtain ⟨_, h2, h3⟩ := h.on (by omega)
  unfold Disk.gone; rw [h3, h.armed, h2]; simp; omega
theorem gone (h : St wr b N k d) (hk : N ≤ k) : d.gone = true := by
  unfold Disk.gone
  by_cases e : k = N
  · obtain ⟨_, h2, h3⟩ := h.on (by omega)
    rw [h3, h.armed, h2]; simp; omega
  · rw [(h.off (by omega)).2.2]; rfl
theorem made (h : St wr b N k d) (hN : N ≤ 50) : d.made ≤ 50 := by
  by_cases e : k ≤ N
  · rw [(h.on e).1]; omega
  · rw [(h.off (by omega)).1]; exact hN
theorem left (h : St wr b N k d) (hN : N ≤ 50) : d.left ≤ 50 := by
  by_cases e : k ≤ N
  · rw [(h.on e).2.1]; omega
  · rw [(h.off (by omega)).2.1]; omega
theorem step (h : St wr b N k d) (hk : k < N) {d' : Disk} (hd : DiskAt w' b d') (h1 : d'.ns = d.ns) (h2 : ∃ v : Nat, d'.cnt = [0, (v : Int)] ∧ v ≤ k + 1) (h3 : d'.armed = d.armed) (h4 : d'.made = d.made + 1) (h5 : d'.left = d.went.left) (h6 : d'.down = d.down) : St w' b N (k + 1) d' := by
  obtain ⟨g1, g2, g3⟩ := h.on (by omega)
  refine ⟨hd, h1.trans h.ns, h2, h3.trans h.armed, fun _ => ⟨by rw [h4, g1], ?_, by rw [h6, g3]⟩, fun e => by omega⟩
  rw [h5]
  unfold Disk.went
  simp only [h.armed, if_true, g2]
  omega
theorem cnt' (h : St wr b N k d) : ∃ v : Nat, d.cnt = [0, (v : Int)] ∧ v ≤ k + 1 := by
  obtain ⟨v, h1, h2⟩ := h.cnt
  exact ⟨v, h1, by omega⟩
theorem fell (h : St wr b N k d) (hk : N ≤ k) (hd : DiskAt w' b d.fell) : St w' b N (k + 1) d.fell := by
  refine ⟨hd, h.ns, h.cnt', h.armed, fun e => by omega, fun _ => ?_⟩
  by_cases e : k = N
  · obtain ⟨g1, g2, g3⟩ := h.on (by omega)
    exact ⟨by show d.made = N; rw [g1, e], by show d.left = 0; rw [g2]; omega, rfl⟩
  · obtain ⟨g1, g2, g3⟩ := h.off (by omega)
    exact ⟨g1, g2, rfl⟩
theorem write_on (h : St wr b N k d) (hk : k < N) (hN : N ≤ 50) (i : Nat) (hi : i < 4) (g : Nat → Nat) : Calls Try.prog 15 #[.pointer (some ⟨b.B, 0, none⟩), .int .i64 i, .agg (cellsOf .u8 (Go.Proofs.Ytbejfpdkfpgipaa.mk 128 g))] wr fun e w' => e = .returned .nilIface ∧ (∃ d', St w' b N (k + 1) d') ∧ Keeps b.own wr w' := by
  have hm := h.made hN
  have hl := h.left hN
  have := Write_on h.at' i (by unfold hasB; rw [h.ns]; simp; omega) (h.goes hk) (by omega) (by omega) g
  exact this.mono fun e w' ⟨h1, h2, h3⟩ => ⟨h1, ⟨_, h.step hk h2 rfl h.cnt' rfl rfl rfl rfl⟩, h3⟩
theorem write_off (h : St wr b N k d) (hk : N ≤ k) (i : Nat) (hi : i < 4) (g : Nat → Nat) : Calls Try.prog 15 #[.pointer (some ⟨b.B, 0, none⟩), .int .i64 i, .agg (cellsOf .u8 (Go.Proofs.Ytbejfpdkfpgipaa.mk 128 g))] wr fun e w' => e = .returned (.iface 52 (.int .i64 5)) ∧ (∃ d', St w' b N (k + 1) d') ∧ Keeps b.own wr w' :=
  (Write_down h.at' i (by unfold hasB; rw [h.ns]; simp; omega) (h.gone hk) g).mono fun e w' ⟨h1, h2, h3⟩ => ⟨h1, ⟨_, h.fell hk h2⟩, h3⟩
theorem flush_on (h : St wr b N k d) (hk : k < N) (hN : N ≤ 50) : Calls Try.prog 18 #[.pointer (some ⟨b.B, 0, none⟩), .int .i64 0, .int .i64 4] wr fun e w' => e = .returned .nilIface ∧ (∃ d', St w' b N (k + 1) d') ∧ Keeps b.own wr w' := by
  have hm := h.made hN
  have hl := h.left hN
  have := Flush_on h.at' 0 4 (by rw [h.ns]; decide) (h.goes hk) (by omega) (by omega)
  exact this.mono fun e w' ⟨h1, h2, h3⟩ => ⟨h1, ⟨_, h.step hk h2 rfl h.cnt' rfl rfl rfl rfl⟩, h3⟩
theorem flush_off (h : St wr b N k d) (hk : N ≤ k) : Calls Try.prog 18 #[.pointer (some ⟨b.B, 0, none⟩), .int .i64 0, .int .i64 4] wr fun e w' => e = .returned (.iface 52 (.int .i64 5)) ∧ (∃ d', St w' b N (k + 1) d') ∧ Keeps b.own wr w' :=
  (Flush_down h.at' 0 4 (by rw [h.ns]; decide) (h.gone hk)).mono fun e w' ⟨h1, h2, h3⟩ => ⟨h1, ⟨_, h.fell hk h2⟩, h3⟩
theorem raise_on (h : St wr b N k d) (hk : k < N) (hN : N ≤ 50) : Calls Try.prog 20 #[.pointer (some ⟨b.B, 0, none⟩), .int .i64 1, .int .i64 k] wr fun e w' => e = .returned .nilIface ∧ (∃ d', St w' b N (k + 1) d') ∧ Keeps b.own wr w' := by
  have hm := h.made hN
  have hl := h.left hN
  obtain ⟨v, hv, hvk⟩ := h.cnt
  have := Raise_on h.at' 1 (by rw [hv]; simp) k (by rw [hv]; simp; omega) (h.goes hk) (by omega) (by omega)
  exact this.mono fun e w' ⟨h1, h2, h3⟩ => ⟨h1, ⟨_, h.step hk h2 rfl ⟨k, by show d.cnt.set 1 (k : Int) = _; rw [hv]; rfl, by omega⟩ rfl rfl rfl rfl⟩, h3⟩
theorem raise_off (h : St wr b N k d) (hk : N ≤ k) : Calls Try.prog 20 #[.pointer (some ⟨b.B, 0, none⟩), .int .i64 1, .int .i64 k] wr fun e w' => e = .returned (.iface 52 (.int .i64 5)) ∧ (∃ d', St w' b N (k + 1) d') ∧ Keeps b.own wr w' := by
  obtain ⟨v, hv, hvk⟩ := h.cnt
  exact (Raise_down h.at' 1 (by rw [hv]; simp) k (by rw [hv]; simp; omega) (h.gone hk)).mono fun e w' ⟨h1, h2, h3⟩ => ⟨h1, ⟨_, h.fell hk h2⟩, h3⟩
end St
theorem steps_at {u : World} {b : Blks} {d : Disk} (h : DiskAt u b d) {m : Nat} (hm : d.made = m) : Calls Try.prog 34 #[.pointer (some ⟨b.B, 0, none⟩)] u fun e w' => e = .returned (.int .i64 m) ∧ w' = u := by
  subst hm; exact (Steps_ok h).mono fun e w' ⟨h1, h2⟩ => ⟨h1, h2.symm⟩
theorem down_at {u : World} {b : Blks} {d : Disk} (h : DiskAt u b d) {m : Bool} (hm : d.down = m) : Calls Try.prog 35 #[.pointer (some ⟨b.B, 0, none⟩)] u fun e w' => e = .returned (.bool m) ∧ w' = u := by
  subst hm; exact (Down_ok h).mono fun e w' ⟨h1, h2⟩ => ⟨h1, h2.symm⟩
attribute [local irreducible] mk
set_option maxRecDepth 100000 in
set_option maxHeartbeats 8000000 in
theorem walk (z : Int) (q1 : Option Addr) (l1 : List Int) (c1 : Nat) (wz : (Lit.int .i64 z).wf = true) (h1 : okInts l1) (w : World) (y1 : IntsAt w q1 l1) :
    Calls Try.prog 5 #[.int .i64 z, .slice q1 l1.length c1] w fun e w' => e = .returned (.bool true) ∧ Below w.heap.size w w' := by
  have AL := Lib.hid (alive_ok w)
  have H1 := Lib.hid h1
  have Y1 := Lib.hid y1
  have NC := Lib.hid (fun W => (show Calls Try.prog 12 #[.int .i64 4, .int .i64 2] W _ from New_ok 4 2 (by omega) (by omega) (by omega) (by omega) W))
  have HM := Lib.hid (Nat.le_refl w.heap.size)
  have bz := bounds_i64 wz
  obtain ⟨U, hU⟩ : ∃ U : Nat, IntKind.u64.wrap z = (U : Int) := ⟨(z % 18446744073709551616).toNat, by rw [IntKind.wrap_u64]; omega⟩
  have hUb : (U : Int) < 18446744073709551616 := by rw [← hU, IntKind.wrap_u64]; omega
  have e2 : (U : Int).tmod 50 = ((U % 50 : Nat) : Int) := by rw [Int.tmod_eq_emod_of_nonneg (by omega)]; omega
  have hN50 : U % 50 < 50 := Nat.mod_lt _ (by omega)
  generalize U % 50 = N at *
  have e3 : IntKind.u64.wrap (N : Int) = (N : Int) := by rw [IntKind.wrap_u64]; omega
  have e4 : IntKind.i64.wrap (N : Int) = (N : Int) := IntWalk.i64_in _ (by omega)
  have HN := Lib.hid (show N ≤ 50 by omega)
  clear h1 y1 wz bz hUb hN50
  by_cases hlen : 300 < l1.length
  · have d1 : decide ((300 : Int) < (l1.length : Int)) = true := by simp; omega
    have d2 : decide (300 < l1.length) = true := by simp; omega
    clear hlen
    go_enter Try.func5, Try.ntmps5
    go_wp2_with (first
      | (go_at_call 10; refine (AL.out).mono ?_; rintro e w1 ⟨rfl, hb1⟩))
    go_ret
    exact ⟨rfl, hb1⟩
  have d1 : decide ((300 : Int) < (l1.length : Int)) = false := by simp; omega
  have d2 : decide (300 < l1.length) = false := by simp; omega
  have HLEN := Lib.hid (show l1.length ≤ 300 by omega)
  clear hlen
  go_enter Try.func5, Try.ntmps5
  go_wp2_with (first
    | (go_at_call 10; refine (AL.out).mono ?_; rintro e w1 ⟨rfl, hb1⟩; have B1 := Lib.hid hb1; clear hb1 AL)
    | (go_at_call 12; refine (NC.out w1).mono ?_; rintro e w2 ⟨b, rfl, hd2, hb2, ho2⟩
       have D2 := Lib.hid hd2
       have B2 := Lib.hid (B1.out.trans (hb2.mono B1.out.size))
       have O2 := Lib.hid (fun k hk => Nat.le_trans B1.out.size (ho2 k hk))
       clear hd2 hb2 ho2 B1 NC)
    | (go_at_call 27; refine (Arm_ok D2.out N).mono ?_; rintro e w3 ⟨rfl, hd3, hk3⟩
       have D3 := Lib.hid hd3
       have B3 := Lib.hid (keeps_below B2.out HM.out O2.out hk3)
       clear hd3 hk3 D2 B2))
  go_loopw [31] (fun v31 wr => ∃ k : Nat, k ≤ l1.length ∧ v31 = .int .i64 k ∧ (∃ d, St wr b N k d) ∧ Below w.heap.size w wr) (fun v31 _ => l1.length - (intOf v31).toNat)
  case atStart => exact ⟨0, Nat.zero_le _, rfl, ⟨_, ⟨D3.out, rfl, ⟨0, rfl, Nat.le_refl _⟩, rfl, fun _ => ⟨rfl, rfl, rfl⟩, fun e => absurd e (Nat.not_lt_zero _)⟩⟩, B3.out⟩
  case round =>
    obtain ⟨k, hk, rfl, ⟨d, hst⟩, hb⟩ := hrel
    have ST := Lib.hid hst
    have HB := Lib.hid hb
    clear hst hb D3 B3 hU e2 e3 e4
    by_cases hlt : k < l1.length
    · rcases Y1.out with he | ⟨B, o, rfl, hB, hc⟩
      · rw [he] at hlt; exact absurd hlt (Nat.not_lt_zero _)
      have cl := (HB.out.cell (p := ⟨B, o + k, none⟩) hB).trans (hc k hlt)
      have bx := H1.out.1 k hlt
      have HLT := Lib.hid hlt
      have f1 : (k : Int) < (l1.length : Int) := by omega
      have f2 : (0 : Int) ≤ k := by omega
      have f3 : IntKind.i64.wrap ((k : Int) + 1) = ((k + 1 : Nat) : Int) := by have := HLEN.out; rw [IntWalk.i64_in _ (by omega)]; omega
      have f4 : (k : Int).tmod 4 = ((k % 4 : Nat) : Int) := by rw [Int.tmod_eq_emod_of_nonneg (by omega)]; omega
      have HR4 := Lib.hid (Nat.mod_lt k (show 4 > 0 by decide))
      obtain ⟨kb, hkb⟩ : ∃ kb : Nat, IntKind.u8.wrap (k : Int) = (kb : Int) := ⟨k % 256, by rw [IntKind.wrap_u8]; omega⟩
      clear hc hB hlt
      generalize l1.getD k 0 = x at *
      obtain ⟨V, hV⟩ : ∃ V : Nat, IntKind.u64.wrap x = (V : Int) := ⟨(x % 18446744073709551616).toNat, by rw [IntKind.wrap_u64]; omega⟩
      have hVb : (V : Int) < 18446744073709551616 := by rw [← hV, IntKind.wrap_u64]; omega
      have g2 : (V : Int).tmod 3 = ((V % 3 : Nat) : Int) := by rw [Int.tmod_eq_emod_of_nonneg (by omega)]; omega
      have hr3 : V % 3 < 3 := Nat.mod_lt _ (by omega)
      generalize V % 3 = r at *
      have g3 : IntKind.u64.wrap (r : Int) = (r : Int) := by rw [IntKind.wrap_u64]; omega
      generalize k % 4 = k4 at *
      clear bx hVb
      by_cases hkn : k < N
      · rcases (show r = 0 ∨ r = 1 ∨ r = 2 by omega) with hr | hr | hr
        · have s0 : ((r : Int) == 0) = true := by simp; omega
          have s0b : decide ((r : Int) = 0) = true := by simp; omega
          have s1 : ((r : Int) == 1) = false := by simp; omega
          have s1b : decide ((r : Int) = 1) = false := by simp; omega
          have t0 : decide ((k : Int) < (N : Int)) = true := by simp; omega
          have t0b : decide (k < N) = true := by simp; omega
          have HKN := Lib.hid (show k < N by omega)
          clear hr3 hkn hr
          go_wp2_with (first
            | (refine wpList_sec_one rfl _ rfl kb rfl ?_)
            | (go_at_call 15; refine (ST.out.write_on HKN.out HN.out k4 HR4.out (oneF kb)).mono ?_; rintro e w5 ⟨rfl, hs5, hk5⟩
               have S5 := Lib.hid hs5
               have B5 := Lib.hid (keeps_below HB.out HM.out O2.out hk5)
               clear hs5 hk5 ST HB)
            | (go_at_call 28; refine (Is_err 5 rfl _).mono ?_; rintro e w6 ⟨rfl, rfl⟩))
          go_roundw
          case rel => exact ⟨k + 1, HLT.out, by go_num, S5.out, B5.out⟩
          case measure => have := HLT.out; simp [intOf]; omega
        · have s0 : ((r : Int) == 0) = false := by simp; omega
          have s0b : decide ((r : Int) = 0) = false := by simp; omega
          have s1 : ((r : Int) == 1) = true := by simp; omega
          have s1b : decide ((r : Int) = 1) = true := by simp; omega
          have t0 : decide ((k : Int) < (N : Int)) = true := by simp; omega
          have t0b : decide (k < N) = true := by simp; omega
          have HKN := Lib.hid (show k < N by omega)
          clear hr3 hkn hr
          go_wp2_with (first
            | (go_at_call 18; refine (ST.out.flush_on HKN.out HN.out).mono ?_; rintro e w5 ⟨rfl, hs5, hk5⟩
               have S5 := Lib.hid hs5
               have B5 := Lib.hid (keeps_below HB.out HM.out O2.out hk5)
               clear hs5 hk5 ST HB)
            | (go_at_call 28; refine (Is_err 5 rfl _).mono ?_; rintro e w6 ⟨rfl, rfl⟩))
          go_roundw
          case rel => exact ⟨k + 1, HLT.out, by go_num, S5.out, B5.out⟩
          case measure => have := HLT.out; simp [intOf]; omega
        · have s0 : ((r : Int) == 0) = false := by simp; omega
          have s0b : decide ((r : Int) = 0) = false := by simp; omega
          have s1 : ((r : Int) == 1) = false := by simp; omega
          have s1b : decide ((r : Int) = 1) = false := by simp; omega
          have t0 : decide ((k : Int) < (N : Int)) = true := by simp; omega
          have t0b : decide (k < N) = true := by simp; omega
          have HKN := Lib.hid (show k < N by omega)
          clear hr3 hkn hr
          go_wp2_with (first
            | (go_at_call 20; refine (ST.out.raise_on HKN.out HN.out).mono ?_; rintro e w5 ⟨rfl, hs5, hk5⟩
               have S5 := Lib.hid hs5
               have B5 := Lib.hid (keeps_below HB.out HM.out O2.out hk5)
               clear hs5 hk5 ST HB)
            | (go_at_call 28; refine (Is_err 5 rfl _).mono ?_; rintro e w6 ⟨rfl, rfl⟩))
          go_roundw
          case rel => exact ⟨k + 1, HLT.out, by go_num, S5.out, B5.out⟩
          case measure => have := HLT.out; simp [intOf]; omega
      · rcases (show r = 0 ∨ r = 1 ∨ r = 2 by omega) with hr | hr | hr
        · have s0 : ((r : Int) == 0) = true := by simp; omega
          have s0b : decide ((r : Int) = 0) = true := by simp; omega
          have s1 : ((r : Int) == 1) = false := by simp; omega
          have s1b : decide ((r : Int) = 1) = false := by simp; omega
          have t0 : decide ((k : Int) < (N : Int)) = false := by simp; omega
          have t0b : decide (k < N) = false := by simp; omega
          have HKN := Lib.hid (show N ≤ k by omega)
          clear hr3 hkn hr
          go_wp2_with (first
            | (refine wpList_sec_one rfl _ rfl kb rfl ?_)
            | (go_at_call 15; refine (ST.out.write_off HKN.out k4 HR4.out (oneF kb)).mono ?_; rintro e w5 ⟨rfl, hs5, hk5⟩
               have S5 := Lib.hid hs5
               have B5 := Lib.hid (keeps_below HB.out HM.out O2.out hk5)
               clear hs5 hk5 ST HB)
            | (go_at_call 28; refine (Is_err 5 rfl _).mono ?_; rintro e w6 ⟨rfl, rfl⟩))
          go_roundw
          case rel => exact ⟨k + 1, HLT.out, by go_num, S5.out, B5.out⟩
          case measure => have := HLT.out; simp [intOf]; omega
        · have s0 : ((r : Int) == 0) = false := by simp; omega
          have s0b : decide ((r : Int) = 0) = false := by simp; omega
          have s1 : ((r : Int) == 1) = true := by simp; omega
          have s1b : decide ((r : Int) = 1) = true := by simp; omega
          have t0 : decide ((k : Int) < (N : Int)) = false := by simp; omega
          have t0b : decide (k < N) = false := by simp; omega
          have HKN := Lib.hid (show N ≤ k by omega)
          clear hr3 hkn hr
          go_wp2_with (first
            | (go_at_call 18; refine (ST.out.flush_off HKN.out).mono ?_; rintro e w5 ⟨rfl, hs5, hk5⟩
               have S5 := Lib.hid hs5
               have B5 := Lib.hid (keeps_below HB.out HM.out O2.out hk5)
               clear hs5 hk5 ST HB)
            | (go_at_call 28; refine (Is_err 5 rfl _).mono ?_; rintro e w6 ⟨rfl, rfl⟩))
          go_roundw
          case rel => exact ⟨k + 1, HLT.out, by go_num, S5.out, B5.out⟩
          case measure => have := HLT.out; simp [intOf]; omega
        · have s0 : ((r : Int) == 0) = false := by simp; omega
          have s0b : decide ((r : Int) = 0) = false := by simp; omega
          have s1 : ((r : Int) == 1) = false := by simp; omega
          have s1b : decide ((r : Int) = 1) = false := by simp; omega
          have t0 : decide ((k : Int) < (N : Int)) = false := by simp; omega
          have t0b : decide (k < N) = false := by simp; omega
          have HKN := Lib.hid (show N ≤ k by omega)
          clear hr3 hkn hr
          go_wp2_with (first
            | (go_at_call 20; refine (ST.out.raise_off HKN.out).mono ?_; rintro e w5 ⟨rfl, hs5, hk5⟩
               have S5 := Lib.hid hs5
               have B5 := Lib.hid (keeps_below HB.out HM.out O2.out hk5)
               clear hs5 hk5 ST HB)
            | (go_at_call 28; refine (Is_err 5 rfl _).mono ?_; rintro e w6 ⟨rfl, rfl⟩))
          go_roundw
          case rel => exact ⟨k + 1, HLT.out, by go_num, S5.out, B5.out⟩
          case measure => have := HLT.out; simp [intOf]; omega
    · have e1 : ¬ (k : Int) < (l1.length : Int) := by omega
      obtain rfl : k = l1.length := by omega
      clear hlt
      by_cases hLN : l1.length ≤ N
      · obtain ⟨gm, gl, gd⟩ := ST.out.on hLN
        have RC := Lib.hid (Read_ok ST.out.at' 0 (by rw [ST.out.ns]; decide) gd)
        go_wp2_with (first
          | (go_at_call 32; refine (show Calls Try.prog 32 #[.pointer (some ⟨b.B, 0, none⟩), .int .i64 0] wr _ from RC.out).mono ?_; rintro e w7 ⟨rfl, hb7⟩
             have D7 := Lib.hid (ST.out.at'.below hb7)
             have B7 := Lib.hid (HB.out.trans (hb7.mono HB.out.size))
             clear hb7))
        have SC := Lib.hid (fun V (hV : ∀ k, V.heap[k]? = w7.heap[k]?) => steps_at (D7.out.keep (w' := V) fun k _ => hV k) gm)
        have DC := Lib.hid (fun V (hV : ∀ k, V.heap[k]? = w7.heap[k]?) => down_at (D7.out.keep (w' := V) fun k _ => hV k) gd)
        have b0 : decide ((N : Int) < (l1.length : Int)) = false := by simp; omega
        have b0b : decide (N < l1.length) = false := by simp; omega
        have mb : ((l1.length : Int) == if l1.length < N then (l1.length : Int) else (N : Int)) = true := by simp only [beq_iff_eq]; split <;> omega
        clear gm gl gd ST HB RC hLN hk
        generalize l1.length = L at *
        go_quiet (first
          | (go_at_call 34; refine Calls.quiet_of_same (SC.out _ (fun _ => rfl)))
          | (go_at_call 35; refine Calls.quiet_of_same (DC.out _ (fun _ => rfl))))
        all_goals go_wp2
        all_goals go_ret
        all_goals exact ⟨rfl, below_drewN B7.out _⟩
      · obtain ⟨gm, gl, gd⟩ := ST.out.off (by omega)
        have RC := Lib.hid (Read_down ST.out.at' 0 (by unfold hasB; rw [ST.out.ns]; rfl) gd)
        go_wp2_with (first
          | (go_at_call 32; refine (show Calls Try.prog 32 #[.pointer (some ⟨b.B, 0, none⟩), .int .i64 0] wr fun e w' => e = .returned (.tuple #[zeroSec, .iface 52 (.int .i64 5)]) ∧ Below wr.heap.size wr w' from RC.out).mono ?_; rintro e w7 ⟨rfl, hb7⟩
             have D7 := Lib.hid (ST.out.at'.below hb7)
             have B7 := Lib.hid (HB.out.trans (hb7.mono HB.out.size))
             clear hb7))
        have SC := Lib.hid (fun V (hV : ∀ k, V.heap[k]? = w7.heap[k]?) => steps_at (D7.out.keep (w' := V) fun k _ => hV k) gm)
        have DC := Lib.hid (fun V (hV : ∀ k, V.heap[k]? = w7.heap[k]?) => down_at (D7.out.keep (w' := V) fun k _ => hV k) gd)
        have b0 : decide ((N : Int) < (l1.length : Int)) = true := by simp; omega
        have b0b : decide (N < l1.length) = true := by simp; omega
        have mb : ((N : Int) == if l1.length < N then (l1.length : Int) else (N : Int)) = true := by simp only [beq_iff_eq]; split <;> omega
        clear gm gl gd ST HB RC hLN hk
        generalize l1.length = L at *
        go_quiet (first
          | (go_at_call 34; refine Calls.quiet_of_same (SC.out _ (fun _ => rfl)))
          | (go_at_call 35; refine Calls.quiet_of_same (DC.out _ (fun _ => rfl))))
        all_goals go_wp2
        all_goals go_ret
        all_goals exact ⟨rfl, below_drewN B7.out _⟩

theorem laidOut : laidOutB Try.prog = true := by kernel_rfl
set_option maxRecDepth 100000 in
theorem lifted (os : Os) (started : os.Started) (H : Type) (enc : TypeId × Value → H) :
    ReturnsInHanded {} Try.checked os 5 .any (Rows.platterArmedSpec.pre6 enc Try.prog Try.f5 Rows.platterArmedRow.domain false) (Rows.platterArmedSpec.post enc Try.prog Try.f5 false true false false) := by
  refine returnsInHanded_of_change (C := Try.checked) own started (by kernel_rfl) Try.func5
    (ChangeSpec.witness6 (enc := enc) (C := Try.checked) false ⟨#[], #[.int .i64 0, .slice none 0 0], []⟩ 8 (by kernel_rfl) (by kernel_rfl) (by kernel_rfl) (by kernel_rfl)) ?_
  intro W base args ds gs before hval0 hW hcnd _
  have hval : ∀ (j : Nat) t v, Try.f5.params[j]? = some t → args[j]? = some v → Value.okWide Try.prog W .any base t v := hval0
  have hW' := hW
  obtain ⟨p, q, hA0, hV, rfl, hfz, hnd⟩ := hW
  have hA : DataW.TrodAll enc Try.prog W 0 (fun _ => true) true Try.f5.params.toList args.toList ds p := hA0
  rw [Try.params5] at hA hval
  obtain ⟨v0, vs0, d0, ds0, p0, q0, hargs, rfl, rfl, h0, r0⟩ := trodAll_cons hA
  obtain ⟨v1, vs1, d1, ds1, p1, q1, rfl, rfl, rfl, h1, r1⟩ := trodAll_cons r0
  obtain ⟨rfl, rfl, rfl⟩ := trodAll_nil r1
  obtain rfl : args = #[v0, v1] := by cases args; simp_all
  obtain ⟨rfl, rfl⟩ := trodVars_none hV
  obtain ⟨a0, rfl, rfl, rfl, w0⟩ := open_int Try.underlying3 (hval 0 3 v0 rfl rfl) h0
  have k1 := h1
  have lt1 : ∀ x ∈ p1, x.block < W.heap.size := by obtain ⟨m, hm⟩ := k1; exact DataW.trod_lt m _ _ _ hm
  obtain ⟨q1, a1, c1, rfl, w1, y1⟩ := open_ints (hval 1 35 v1 rfl rfl) h1
  clear hA0 hval0
  refine (walk a0 q1 a1 c1 w0 w1 W y1).mono fun e W' ⟨he, bel⟩ => ?_
  subst he
  exact ⟨_, rfl, _, _, _, [], _, [], hW', trodAll_mk1 (shut_bool Try.underlying4 _), (trodAll_cons_mk (shut_int Try.underlying3 w0) (trodAll_cons_mk (Below.trod laidOut (by kernel_rfl) (of_decide_eq_true (by kernel_rfl)) k1 bel lt1) trodAll_mk0)), rfl, bel.frame _, fun h => by cases h⟩

theorem over : Rows.platterArmedRow.holds Try.pinned (OpenSpec.ofChange Rows.platterArmedSpec) :=
  OpenClaim.holds_of_wide 5 Try.f5 rfl rfl rfl rfl rfl rfl rfl ⟨rfl, rfl, rfl, rfl, rfl⟩ rfl rfl rfl rfl rfl (by kernel_rfl) Try.func5 (by kernel_rfl)
    (of_decide_eq_true (by kernel_rfl)) (by unfold Func.isWrapper; first | (rw [if_pos (by decide +kernel)]; kernel_rfl) | (rw [if_neg (by decide +kernel)]; exact ⟨rfl, rfl⟩))
    (fun os started H enc _ => lifted os started H enc)

theorem proved : Rows.PlatterArmedSaid := over
end Go.Proofs.Ytbejfpdkfpgipaa.platterArmed

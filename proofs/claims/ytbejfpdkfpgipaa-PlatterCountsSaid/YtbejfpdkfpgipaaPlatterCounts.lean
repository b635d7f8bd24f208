/- PlatterCounts: counters never fall, and outlive crashes, for every list of numbers and of sectors that are kept. No condition. -/
import Derived.Test.YtbejfpdkfpgipaaPlAlive
import Derived.Test.YtbejfpdkfpgipaaPlArgs
import Derived.Test.YtbejfpdkfpgipaaPlErr
namespace Go.Proofs.Ytbejfpdkfpgipaa.platterCounts
open Go.ChangeShapes Go.WideShapes Go.ChangeAt Go.RowKit
set_option linter.unusedVariables false
theorem own : ownKnob Try.prog.godebug = none := by kernel_rfl
def lastK (l : List Int) : Nat → Int
  | 0 => 0
  | k + 1 => max (lastK l k) (l.getD k 0)
/-- The disk, after k rounds. -/
structure St (wr : World) (b : Blks) (v : Int) (k : Nat) (d : Disk) : Prop where
  at' : DiskAt wr b d
  cnt : d.cnt = [v]
  made : d.made ≤ k
  armed : d.armed = false
  left : d.left = 0
  down : d.down = false
theorem St.gone {wr : World} {b : Blks} {v : Int} {k : Nat} {d : Disk} (h : St wr b v k d) : d.gone = false := by unfold Disk.gone; rw [h.down, h.armed]; rfl
theorem St.raised {wr w' : World} {b : Blks} {v x : Int} {k : Nat} {d : Disk} (h : St wr b v k d) (hd : DiskAt w' b (d.raised 0 x)) : St w' b x (k + 1) (d.raised 0 x) :=
  ⟨hd, by show d.cnt.set 0 x = [x]; rw [h.cnt]; rfl, by have := h.made; show d.made + 1 ≤ k + 1; omega, h.armed, by show (if d.armed then d.left - 1 else d.left) = 0; rw [h.armed, h.left]; rfl, h.down⟩
theorem St.crashed {wr w' : World} {b : Blks} {v : Int} {k : Nat} {d : Disk} {l : List Int} (h : St wr b v k d) (hd : DiskAt w' b (d.crashed l)) : St w' b v k (d.crashed l) :=
  ⟨hd, h.cnt, h.made, rfl, rfl, rfl⟩
theorem St.more {wr : World} {b : Blks} {v : Int} {k : Nat} {d : Disk} (h : St wr b v k d) : St wr b v (k + 1) d := ⟨h.at', h.cnt, Nat.le_succ_of_le h.made, h.armed, h.left, h.down⟩
theorem St.counter {wr : World} {b : Blks} {v : Int} {k : Nat} {d : Disk} (h : St wr b v k d) : Calls Try.prog 39 #[.pointer (some ⟨b.B, 0, none⟩), .int .i64 0] wr fun e w' => e = .returned (.tuple #[.int .i64 v, .nilIface]) ∧ wr = w' := by
  have := Counter_ok h.at' 0 (by rw [h.cnt]; simp)
  rw [h.cnt] at this
  exact this
theorem St.raise_on {wr : World} {b : Blks} {v x : Int} {k : Nat} {d : Disk} (h : St wr b v k d) (hk : k ≤ 1000) (hx : v ≤ x) : Calls Try.prog 20 #[.pointer (some ⟨b.B, 0, none⟩), .int .i64 0, .int .i64 x] wr fun e w' => e = .returned .nilIface ∧ St w' b x (k + 1) (d.raised 0 x) ∧ Keeps b.own wr w' := by
  have hm := h.made
  have := Raise_on h.at' 0 (by rw [h.cnt]; simp) x (by rw [h.cnt]; exact hx) h.gone (by omega) (by rw [h.left]; omega)
  exact this.mono fun e w' ⟨h1, h2, h3⟩ => ⟨h1, h.raised h2, h3⟩
theorem St.raise_low {wr : World} {b : Blks} {v x : Int} {k : Nat} {d : Disk} (h : St wr b v k d) (hx : x < v) : Calls Try.prog 20 #[.pointer (some ⟨b.B, 0, none⟩), .int .i64 0, .int .i64 x] wr fun e w' => e = .returned (.iface 52 (.int .i64 1)) ∧ wr = w' :=
  Raise_low h.at' 0 (by rw [h.cnt]; simp) x (by rw [h.cnt]; exact hx)
set_option maxRecDepth 100000 in
set_option maxHeartbeats 4000000 in
theorem walk (q0 : Option Addr) (l0 : List Int) (c0 : Nat) (q1 : Option Addr) (l1 : List Int) (c1 : Nat) (h0 : okInts l0) (h1 : okInts l1) (w : World) (y0 : IntsAt w q0 l0) (y1 : IntsAt w q1 l1) :
    Calls Try.prog 6 #[.slice q0 l0.length c0, .slice q1 l1.length c1] w fun e w' => e = .returned (.bool true) ∧ Below w.heap.size w w' := by
  have AL := Lib.hid (alive_ok w)
  have H0 := Lib.hid h0
  have H1 := Lib.hid h1
  have Y0 := Lib.hid y0
  have Y1 := Lib.hid y1
  have NC := Lib.hid (fun W => (show Calls Try.prog 12 #[.int .i64 1, .int .i64 1] W _ from New_ok 1 1 (by omega) (by omega) (by omega) (by omega) W))
  clear h0 h1 y0 y1
  by_cases hlen : 200 < l0.length
  · have d1 : decide ((200 : Int) < (l0.length : Int)) = true := by simp; omega
    have d2 : decide (200 < l0.length) = true := by simp; omega
    clear hlen
    go_enter Try.func6, Try.ntmps6
    go_wp2_with (first
      | (go_at_call 10; refine (AL.out).mono ?_; rintro e w1 ⟨rfl, hb1⟩))
    go_ret
    exact ⟨rfl, hb1⟩
  have d1 : decide ((200 : Int) < (l0.length : Int)) = false := by simp; omega
  have d2 : decide (200 < l0.length) = false := by simp; omega
  have HLEN := Lib.hid (show l0.length ≤ 200 by omega)
  clear hlen
  go_enter Try.func6, Try.ntmps6
  go_wp2_with (first
    | (go_at_call 10; refine (AL.out).mono ?_; rintro e w1 ⟨rfl, hb1⟩; have B1 := Lib.hid hb1; clear hb1)
    | (go_at_call 12; refine (NC.out w1).mono ?_; rintro e w2 ⟨b, rfl, hd2, hb2, ho2⟩
       have D2 := Lib.hid hd2
       have B2 := Lib.hid (B1.out.trans (hb2.mono B1.out.size))
       have O2 := Lib.hid (fun k hk => Nat.le_trans B1.out.size (ho2 k hk))
       clear hd2 hb2 ho2 B1 NC))
  have HM := Lib.hid (Nat.le_refl w.heap.size)
  go_loopw [26, 7] (fun v26 v7 wr => ∃ k : Nat, k ≤ l0.length ∧ v26 = .int .i64 k ∧ v7 = .int .i64 (lastK l0 k) ∧ (∃ d, St wr b (lastK l0 k) k d) ∧ Below w.heap.size w wr) (fun v26 _ _ => l0.length - (intOf v26).toNat)
  case atStart => exact ⟨0, Nat.zero_le _, rfl, rfl, ⟨_, ⟨D2.out, rfl, Nat.le_refl _, rfl, rfl, rfl⟩⟩, B2.out⟩
  case round =>
    obtain ⟨k, hk, rfl, rfl, ⟨d, hst⟩, hb⟩ := hrel
    have ST := Lib.hid hst
    have HB := Lib.hid hb
    clear hst hb D2 B2 AL
    by_cases hlt : k < l0.length
    · rcases Y0.out with he | ⟨B, o, rfl, hB, hc⟩
      · rw [he] at hlt; exact absurd hlt (Nat.not_lt_zero _)
      have cl := (HB.out.cell (p := ⟨B, o + k, none⟩) hB).trans (hc k hlt)
      have HX := Lib.hid (H0.out.1 k hlt)
      have HLT := Lib.hid hlt
      have HLS := Lib.hid (show lastK l0 (k + 1) = max (lastK l0 k) (l0.getD k 0) from rfl)
      have e1 : (k : Int) < (l0.length : Int) := by omega
      have e2 : (0 : Int) ≤ k := by omega
      have e3 : IntKind.i64.wrap ((k : Int) + 1) = ((k + 1 : Nat) : Int) := by have := HLEN.out; rw [IntWalk.i64_in _ (by omega)]; omega
      have e4 : (k : Int).tmod 3 = ((k % 3 : Nat) : Int) := by rw [Int.tmod_eq_emod_of_nonneg (by omega)]; omega
      have HK := Lib.hid (show k ≤ 1000 by have := HLEN.out; omega)
      clear hc hB hlt
      generalize l0.getD k 0 = x at *
      generalize hv : lastK l0 k = v at *
      generalize hr : k % 3 = r at *
      clear hv hr
      by_cases hge : v ≤ x
      · by_cases hcr : r = 2
        · have g1 : decide (v ≤ x) = true := by simpa using hge
          have g2 : (v ≤ x) := hge
          have g3 : max v x = x := Int.max_eq_right hge
          have HGE := Lib.hid (show v ≤ x by omega)
          have m1 : decide ((r : Int) = 2) = true := by simp; omega
          have m2 : ((r : Int) == 2) = true := by simp; omega
          have HG3 := Lib.hid g3
          clear hge hcr g2 g3
          go_wp2_with (first
            | (go_at_call 20; refine (ST.out.raise_on HK.out HGE.out).mono ?_; rintro e w3 ⟨rfl, hs3, hk3⟩
               have S3 := Lib.hid hs3
               have B3 := Lib.hid (keeps_below HB.out HM.out O2.out hk3)
               clear hs3 hk3 ST HB)
            | (go_at_call 29; refine (Crash_ok S3.out.at' q1 l1 c1 (Y1.out.below (B3.out.mono (Nat.le_refl _))) H1.out.2).mono ?_; rintro e w4 ⟨rfl, hd4, hk4⟩
               have S4 := Lib.hid (S3.out.crashed hd4)
               have B4 := Lib.hid (keeps_below B3.out HM.out O2.out hk4)
               clear hd4 hk4 S3 B3)
            | (go_at_call 28; refine (Is_err 1 rfl _).mono ?_; rintro e w5 ⟨rfl, rfl⟩)
            | (go_at_call 39; refine (S4.out.counter).mono ?_; rintro e w5 ⟨rfl, rfl⟩)
            | (refine wpList_max_ints rfl _ _ rfl v x rfl rfl ?_; rw [HG3.out]))
          go_roundw
          case rel => exact ⟨k + 1, HLT.out, by go_num, by rw [HLS.out, HG3.out], ⟨_, by rw [HLS.out, HG3.out]; exact S4.out⟩, B4.out⟩
          case measure => have := HLT.out; simp [intOf]; omega
        · have g1 : decide (v ≤ x) = true := by simpa using hge
          have g2 : (v ≤ x) := hge
          have g3 : max v x = x := Int.max_eq_right hge
          have HGE := Lib.hid (show v ≤ x by omega)
          have m1 : decide ((r : Int) = 2) = false := by simp; omega
          have m2 : ((r : Int) == 2) = false := by simp; omega
          have HG3 := Lib.hid g3
          clear hge hcr g2 g3
          go_wp2_with (first
            | (go_at_call 20; refine (ST.out.raise_on HK.out HGE.out).mono ?_; rintro e w3 ⟨rfl, hs3, hk3⟩
               have S3 := Lib.hid hs3
               have B3 := Lib.hid (keeps_below HB.out HM.out O2.out hk3)
               clear hs3 hk3 ST HB)
            | (go_at_call 28; refine (Is_err 1 rfl _).mono ?_; rintro e w5 ⟨rfl, rfl⟩)
            | (go_at_call 39; refine (S3.out.counter).mono ?_; rintro e w5 ⟨rfl, rfl⟩)
            | (refine wpList_max_ints rfl _ _ rfl v x rfl rfl ?_; rw [HG3.out]))
          go_roundw
          case rel => exact ⟨k + 1, HLT.out, by go_num, by rw [HLS.out, HG3.out], ⟨_, by rw [HLS.out, HG3.out]; exact S3.out⟩, B3.out⟩
          case measure => have := HLT.out; simp [intOf]; omega
      · by_cases hcr : r = 2
        · have g1 : decide (v ≤ x) = false := by simpa using hge
          have g2 : ¬ (v ≤ x) := hge
          have g3 : max v x = v := Int.max_eq_left (by omega)
          have HGE := Lib.hid (show x < v by omega)
          have m1 : decide ((r : Int) = 2) = true := by simp; omega
          have m2 : ((r : Int) == 2) = true := by simp; omega
          have HG3 := Lib.hid g3
          clear hge hcr g2 g3
          go_wp2_with (first
            | (go_at_call 20; refine (ST.out.raise_low HGE.out).mono ?_; rintro e w3 ⟨rfl, rfl⟩
               have S3 := Lib.hid ST.out.more
               have B3 := Lib.hid HB.out
               clear ST HB)
            | (go_at_call 29; refine (Crash_ok S3.out.at' q1 l1 c1 (Y1.out.below (B3.out.mono (Nat.le_refl _))) H1.out.2).mono ?_; rintro e w4 ⟨rfl, hd4, hk4⟩
               have S4 := Lib.hid (S3.out.crashed hd4)
               have B4 := Lib.hid (keeps_below B3.out HM.out O2.out hk4)
               clear hd4 hk4 S3 B3)
            | (go_at_call 28; refine (Is_err 1 rfl _).mono ?_; rintro e w5 ⟨rfl, rfl⟩)
            | (go_at_call 39; refine (S4.out.counter).mono ?_; rintro e w5 ⟨rfl, rfl⟩)
            | (refine wpList_max_ints rfl _ _ rfl v x rfl rfl ?_; rw [HG3.out]))
          go_roundw
          case rel => exact ⟨k + 1, HLT.out, by go_num, by rw [HLS.out, HG3.out], ⟨_, by rw [HLS.out, HG3.out]; exact S4.out⟩, B4.out⟩
          case measure => have := HLT.out; simp [intOf]; omega
        · have g1 : decide (v ≤ x) = false := by simpa using hge
          have g2 : ¬ (v ≤ x) := hge
          have g3 : max v x = v := Int.max_eq_left (by omega)
          have HGE := Lib.hid (show x < v by omega)
          have m1 : decide ((r : Int) = 2) = false := by simp; omega
          have m2 : ((r : Int) == 2) = false := by simp; omega
          have HG3 := Lib.hid g3
          clear hge hcr g2 g3
          go_wp2_with (first
            | (go_at_call 20; refine (ST.out.raise_low HGE.out).mono ?_; rintro e w3 ⟨rfl, rfl⟩
               have S3 := Lib.hid ST.out.more
               have B3 := Lib.hid HB.out
               clear ST HB)
            | (go_at_call 28; refine (Is_err 1 rfl _).mono ?_; rintro e w5 ⟨rfl, rfl⟩)
            | (go_at_call 39; refine (S3.out.counter).mono ?_; rintro e w5 ⟨rfl, rfl⟩)
            | (refine wpList_max_ints rfl _ _ rfl v x rfl rfl ?_; rw [HG3.out]))
          go_roundw
          case rel => exact ⟨k + 1, HLT.out, by go_num, by rw [HLS.out, HG3.out], ⟨_, by rw [HLS.out, HG3.out]; exact S3.out⟩, B3.out⟩
          case measure => have := HLT.out; simp [intOf]; omega
    · have e1 : ¬ (k : Int) < (l0.length : Int) := by omega
      go_wp2
      go_ret
      exact ⟨rfl, HB.out⟩

theorem laidOut : laidOutB Try.prog = true := by kernel_rfl
set_option maxRecDepth 100000 in
theorem lifted (os : Os) (started : os.Started) (H : Type) (enc : TypeId × Value → H) :
    ReturnsInHanded {} Try.checked os 6 .any (Rows.platterCountsSpec.pre6 enc Try.prog Try.f6 Rows.platterCountsRow.domain false) (Rows.platterCountsSpec.post enc Try.prog Try.f6 false true false false) := by
  refine returnsInHanded_of_change (C := Try.checked) own started (by kernel_rfl) Try.func6
    (ChangeSpec.witness6 (enc := enc) (C := Try.checked) false ⟨#[], #[.slice none 0 0, .slice none 0 0], []⟩ 8 (by kernel_rfl) (by kernel_rfl) (by kernel_rfl) (by kernel_rfl)) ?_
  intro W base args ds gs before hval0 hW hcnd _
  have hval : ∀ (j : Nat) t v, Try.f6.params[j]? = some t → args[j]? = some v → Value.okWide Try.prog W .any base t v := hval0
  have hW' := hW
  obtain ⟨p, q, hA0, hV, rfl, hfz, hnd⟩ := hW
  have hA : DataW.TrodAll enc Try.prog W 0 (fun _ => true) true Try.f6.params.toList args.toList ds p := hA0
  rw [Try.params6] at hA hval
  obtain ⟨v0, vs0, d0, ds0, p0, q0, hargs, rfl, rfl, h0, r0⟩ := trodAll_cons hA
  obtain ⟨v1, vs1, d1, ds1, p1, q1, rfl, rfl, rfl, h1, r1⟩ := trodAll_cons r0
  obtain ⟨rfl, rfl, rfl⟩ := trodAll_nil r1
  obtain rfl : args = #[v0, v1] := by cases args; simp_all
  obtain ⟨rfl, rfl⟩ := trodVars_none hV
  have k0 := h0
  have lt0 : ∀ x ∈ p0, x.block < W.heap.size := by obtain ⟨m, hm⟩ := k0; exact DataW.trod_lt m _ _ _ hm
  obtain ⟨q0, a0, c0, rfl, w0, y0⟩ := open_ints (hval 0 35 v0 rfl rfl) h0
  have k1 := h1
  have lt1 : ∀ x ∈ p1, x.block < W.heap.size := by obtain ⟨m, hm⟩ := k1; exact DataW.trod_lt m _ _ _ hm
  obtain ⟨q1, a1, c1, rfl, w1, y1⟩ := open_ints (hval 1 35 v1 rfl rfl) h1
  clear hA0 hval0
  refine (walk q0 a0 c0 q1 a1 c1 w0 w1 W y0 y1).mono fun e W' ⟨he, bel⟩ => ?_
  subst he
  exact ⟨_, rfl, _, _, _, [], _, [], hW', trodAll_mk1 (shut_bool Try.underlying4 _), (trodAll_cons_mk (Below.trod laidOut (by kernel_rfl) (of_decide_eq_true (by kernel_rfl)) k0 bel lt0) (trodAll_cons_mk (Below.trod laidOut (by kernel_rfl) (of_decide_eq_true (by kernel_rfl)) k1 bel lt1) trodAll_mk0)), rfl, bel.frame _, fun h => by cases h⟩

theorem over : Rows.platterCountsRow.holds Try.pinned (OpenSpec.ofChange Rows.platterCountsSpec) :=
  OpenClaim.holds_of_wide 6 Try.f6 rfl rfl rfl rfl rfl rfl rfl ⟨rfl, rfl, rfl, rfl, rfl⟩ rfl rfl rfl rfl rfl (by kernel_rfl) Try.func6 (by kernel_rfl)
    (of_decide_eq_true (by kernel_rfl)) (by unfold Func.isWrapper; first | (rw [if_pos (by decide +kernel)]; kernel_rfl) | (rw [if_neg (by decide +kernel)]; exact ⟨rfl, rfl⟩))
    (fun os started H enc _ => lifted os started H enc)

theorem proved : Rows.PlatterCountsSaid := over
end Go.Proofs.Ytbejfpdkfpgipaa.platterCounts

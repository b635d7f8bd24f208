/- The contracts of package citadelref01's bit and Mul: each answers what the plain functions below say, and writes nothing that was there. Conditions: the arguments are bytes; a bit's number is from 0 to 100. -/
import Derived.Test.YtilfjmpoiiepkaaRows
import Derived.Test.YtilfjmpoiiepkaaRefNum
import Derived.Test.YtilfjmpoiiepkaaBlk
import Derived.StillTailTactics
import Derived.WalkKit
import Derived.ProofKit
import Derived.OpenShut
import Derived.Lib.Hide
namespace Go.Proofs.Ytilfjmpoiiepkaa
open Go.ChangeShapes Go.WideShapes Go.ChangeAt Go.RowKit

def bitI (b i : Int) : Int := (b.toNat / 2 ^ i.toNat % 2 : Nat)
theorem bitI_bd (b i : Int) : 0 ≤ bitI b i ∧ bitI b i ≤ 1 := by unfold bitI; omega

set_option maxHeartbeats 400000 in
theorem bit_any (b i : Int) (h0 : 0 ≤ b) (h1 : b ≤ 255) (g0 : 0 ≤ i) (g1 : i ≤ 100) (w : World) :
    Calls Try.prog 52 #[.int .u8 b, .int .i64 i] w fun e w' => e = .returned (.int .i64 (bitI b i)) ∧ w = w' := by
  go_enter Try.func52, Try.ntmps52
  go_wp2
  go_loop [0, 5] (fun vb vk => ∃ (k : Nat) (x : Int), (k : Int) ≤ i ∧ 0 ≤ x ∧ x ≤ 255 ∧ vb = .int .u8 x ∧ vk = .int .i64 k ∧ x.toNat = b.toNat / 2 ^ k) (fun _ vk => (i - intOf vk).toNat)
  case atStart => exact ⟨0, b, by omega, h0, h1, rfl, rfl, by simp⟩
  case round =>
    obtain ⟨k, x, hk, x0, x1, rfl, rfl, hx⟩ := hrel
    have HX := Lib.hid hx; clear hx
    by_cases hz : (k : Int) < i
    · go_wp2
      go_round
      case rel => exact ⟨k + 1, x / 2, by omega, by omega, by omega, rfl, by go_num, by have := HX.out; rw [Nat.pow_succ, ← Nat.div_div_eq_div_mul, ← this]; omega⟩
      case measure => simp [intOf]; omega
    · go_wp2
      go_ret
      have e : bitI b i = x % 2 := by
        have := HX.out; unfold bitI; rw [show i.toNat = k by omega, ← this]; omega
      rw [e]; exact ⟨rfl, rfl⟩
theorem bit_same (b i : Int) (h0 : 0 ≤ b) (h1 : b ≤ 255) (g0 : 0 ≤ i) (g1 : i ≤ 100) (w : World) :
    Calls Try.prog 52 #[.int .u8 b, .int .i64 i] w fun e w' => e = .returned (.int .i64 (bitI b i)) ∧ w' = w :=
  (bit_any b i h0 h1 g0 g1 w).mono fun _ _ ⟨he, hw⟩ => ⟨he, hw.symm⟩

theorem row_set (a b : Int) (i k p : Nat) {q : Nat} {x y : Int} (hq : bt (rowP a.toNat b.toNat i k p) (i + k) = q) (hx : bitI a i = x) (hy : bitI b k = y) :
    (bitsOf 15 (rowP a.toNat b.toNat i k p)).set (i + k) (((q : Int) + x * y) % 2) = bitsOf 15 (rowP a.toNat b.toNat i (k + 1) p) := by
  subst hq hx hy
  show _ = bitsOf 15 (rowP a.toNat b.toNat i k p ^^^ (bt a.toNat i * bt b.toNat k * 2 ^ (i + k)))
  refine bitsOf_set 15 _ (mul_bt (bt_lt _ _) (bt_lt _ _)) ?_
  rfl

set_option maxHeartbeats 1000000 in
theorem refMul_any (a b : Int) (h0 : 0 ≤ a) (h1 : a ≤ 255) (g0 : 0 ≤ b) (g1 : b ≤ 255) (w : World) :
    Calls Try.prog 46 #[.int .u8 a, .int .u8 b] w fun e w' => e = .returned (.int .u8 (mulI a b)) ∧ Below w.heap.size w w' := by
  go_enter Try.func46, Try.ntmps46
  go_wp2
  go_loopw [6] (fun v6 wr => ∃ i : Nat, i ≤ 8 ∧ v6 = .int .i64 i ∧ IntBlk wr w.heap.size .i64 73 (bitsOf 15 (allP a.toNat b.toNat i)) ∧ Below w.heap.size w wr) (fun v6 _ => 8 - (intOf v6).toNat)
  case atStart => exact ⟨0, by omega, rfl, IntBlk.new w .i64 73 (bitsOf 15 0), (Below.refl _ _).alloc (Nat.le_refl _) _⟩
  case round =>
    obtain ⟨i, hi, rfl, hblk, hbel⟩ := hrel
    by_cases hlt : i < 8
    · have hd : decide ((i : Int) < 8) = true := by simp; omega
      go_wp2
      go_loopw [7] (fun v7 wk => ∃ k : Nat, k ≤ 8 ∧ v7 = .int .i64 k ∧ IntBlk wk w.heap.size .i64 73 (bitsOf 15 (rowP a.toNat b.toNat i k (allP a.toNat b.toNat i))) ∧ Below w.heap.size w wk) (fun v7 _ => 8 - (intOf v7).toNat)
      case atStart => exact ⟨0, by omega, rfl, hblk, hbel⟩
      case round =>
        obtain ⟨k, hk, rfl, hblk2, hbel2⟩ := hrel
        by_cases hlt2 : k < 8
        · have hc := hblk2.cell (i := i + k) (by rw [bitsOf_len]; omega)
          have hf := hblk2.free (i + k)
          rw [bitsOf_get _ _ (by omega)] at hc
          have bb := bt_lt (rowP a.toNat b.toNat i k (allP a.toNat b.toNat i)) (i + k)
          have b1 := bitI_bd a i
          have b2 := bitI_bd b k
          generalize hbt : bt (rowP a.toNat b.toNat i k (allP a.toNat b.toNat i)) (i + k) = q at hc bb
          have HQ := Lib.hid hbt; clear hbt
          have HB := Lib.hid hblk2; clear hblk2
          have HL := Lib.hid hbel2; clear hbel2
          have BS := fun W => bit_same a i h0 h1 (by omega) (by omega) W
          have BT := fun W => bit_same b k g0 g1 (by omega) (by omega) W
          generalize hx : bitI a i = x at *
          generalize hy : bitI b k = y at *
          have HX := Lib.hid hx; clear hx
          have HY := Lib.hid hy; clear hy
          have m0 : 0 ≤ x * y ∧ x * y ≤ 1 := by
            rcases (show x = 0 ∨ x = 1 by omega) with e | e <;> rw [e] <;> omega
          have e1 : IntKind.i64.wrap ((i : Int) + (k : Int)) = (i : Int) + (k : Int) := IntWalk.i64_in _ (by omega)
          have e2 : 0 ≤ (i : Int) + (k : Int) := by omega
          have e3 : ((i : Int) + (k : Int)).toNat = i + k := by omega
          have e7 : (i : Int) + (k : Int) < 15 := by omega
          have e4 : IntKind.i64.wrap (x * y) = x * y := IntWalk.i64_in _ (by omega)
          have e5 : IntKind.i64.wrap ((q : Int) + x * y) = (q : Int) + x * y := IntWalk.i64_in _ (by omega)
          have e6 : ((q : Int) + x * y).tmod 2 = ((q : Int) + x * y) % 2 := IntWalk.rem_in _ _ (by omega)
          have HBS := Lib.hid BS; clear BS
          have HBT := Lib.hid BT; clear BT
          go_wp2
          refine wp_region_still_tail 18 (by kernel_rfl) (by kernel_rfl) ?_
          simp only [List.take_succ_cons, List.take_zero, List.drop_succ_cons, List.drop_zero]
          change wpStill _ _ wr.drew (fun a' => wpList _ _ _ _ a' wr.drew) _ _
          iterate 10 still_step
          refine wpStill_step (fun K hK => ?_)
          go_simp
          refine ⟨_, HBS.out _, hK _ ?_⟩
          clear hK K
          iterate 2 still_step
          refine wpStill_step (fun K hK => ?_)
          go_simp
          refine ⟨_, HBT.out _, hK _ ?_⟩
          clear hK K
          iterate 4 still_step
          refine wpStill_nil ?_
          go_wp2
          go_roundw
          case rel => exact ⟨k + 1, by omega, by go_num, by rw [← row_set a b i k _ HQ.out HX.out HY.out]; exact (HB.out.set (i + k) _).drew, (HL.out.setCell (Nat.le_refl _) _).drew⟩
          case measure => simp [intOf]; omega
        · obtain rfl : k = 8 := by omega
          have HB := Lib.hid hblk2; clear hblk2
          have HL := Lib.hid hbel2; clear hbel2
          go_wp2
          go_roundw
          case rel => exact ⟨i + 1, by omega, by go_num, HB.out, HL.out⟩
          case measure => simp [intOf]; omega
    · obtain rfl : i = 8 := by omega
      have hd : decide (((8 : Nat) : Int) < 8) = false := rfl
      go_wp2
      go_loopw [8] (fun v8 wk => ∃ n j : Nat, n ≤ 7 ∧ n + j = 14 ∧ v8 = .int .i64 j ∧ IntBlk wk w.heap.size .i64 73 (bitsOf 15 (redP n (allP a.toNat b.toNat 8))) ∧ Below w.heap.size w wk) (fun v8 _ => (intOf v8).toNat - 7)
      case atStart => exact ⟨0, 14, by omega, by omega, rfl, hblk, hbel⟩
      case round =>
        obtain ⟨n, j, hn, hj, rfl, hblk3, hbel3⟩ := hrel
        clear hblk hbel
        by_cases hlt3 : 8 ≤ j
        · have c0 := hblk3.cell (i := j) (by rw [bitsOf_len]; omega)
          have c1 := hblk3.cell (i := j - 8) (by rw [bitsOf_len]; omega)
          have c2 := hblk3.cell (i := j - 7) (by rw [bitsOf_len]; omega)
          have c3 := hblk3.cell (i := j - 5) (by rw [bitsOf_len]; omega)
          have c4 := hblk3.cell (i := j - 4) (by rw [bitsOf_len]; omega)
          have f0 := hblk3.free j
          have f1 := hblk3.free (j - 8)
          have f2 := hblk3.free (j - 7)
          have f3 := hblk3.free (j - 5)
          have f4 := hblk3.free (j - 4)
          rw [bitsOf_get _ _ (by omega)] at c0 c1 c2 c3 c4
          generalize hp : redP n (allP a.toNat b.toNat 8) = p at *
          have HP := Lib.hid hp; clear hp
          have HB := Lib.hid hblk3; clear hblk3
          have HL := Lib.hid hbel3; clear hbel3
          have b0 := bt_lt p j
          have b1 := bt_lt p (j - 8)
          have b2 := bt_lt p (j - 7)
          have b3 := bt_lt p (j - 5)
          have b4 := bt_lt p (j - 4)
          generalize hq0 : bt p j = q0 at *
          generalize hq1 : bt p (j - 8) = q1 at *
          generalize hq2 : bt p (j - 7) = q2 at *
          generalize hq3 : bt p (j - 5) = q3 at *
          generalize hq4 : bt p (j - 4) = q4 at *
          have HQ := Lib.hid (And.intro hq0 (And.intro hq1 (And.intro hq2 (And.intro hq3 hq4))))
          clear hq0 hq1 hq2 hq3 hq4
          by_cases ho : q0 = 1
          · subst ho
            go_wp2
            go_roundw
            case rel =>
              refine ⟨n + 1, j - 1, by omega, by omega, by congr 1; omega, ?_, (((((HL.out.setCell (Nat.le_refl _) _).setCell (Nat.le_refl _) _).setCell (Nat.le_refl _) _).setCell (Nat.le_refl _) _).setCell (Nat.le_refl _) _)⟩
              obtain ⟨g0', g1', g2', g3', g4'⟩ := HQ.out
              rw [redP_step hj, HP.out, ← cut_set hlt3 g0', g1', g2', g3', g4']
              exact ((((HB.out.set j 0).set (j - 8) _).set (j - 7) _).set (j - 5) _).set (j - 4) _
            case measure => simp [intOf]; omega
          · have hz : ((q0 : Int) == 1) = false := by simp; omega
            go_wp2
            go_roundw
            case rel => exact ⟨n + 1, j - 1, by omega, by omega, by congr 1; omega, by rw [redP_step hj, HP.out, cut_no (by rw [HQ.out.1]; exact ho)]; exact HB.out, HL.out⟩
            case measure => simp [intOf]; omega
        · obtain rfl : j = 7 := by omega
          obtain rfl : n = 7 := by omega
          have hd2 : decide (((7 : Nat) : Int) ≥ 8) = false := rfl
          generalize hp : redP 7 (allP a.toNat b.toNat 8) = p at *
          have HP := Lib.hid hp; clear hp
          go_wp2
          go_loop [9, 10] (fun v9 v10 => ∃ (m : Nat) (z o : Int), m ≤ 8 ∧ z + 1 = m ∧ v10 = .int .i64 z ∧ v9 = .int .i64 o ∧ o = (p % 256 / 2 ^ m : Nat)) (fun _ v10 => (intOf v10 + 1).toNat)
          case atStart => exact ⟨8, 7, 0, by omega, by omega, rfl, rfl, by rw [out_start]; rfl⟩
          case round =>
            obtain ⟨m, z, o, hm, hz, rfl, rfl, ho⟩ := hrel
            have HB := Lib.hid hblk3
            have HL := Lib.hid hbel3
            clear hblk3 hbel3
            have ob := out_bd ho
            have HO := Lib.hid ho; clear ho
            cases m with
            | zero =>
              obtain rfl : z = -1 := by omega
              clear hz hm
              go_wp2
              go_ret
              refine ⟨?_, HL.out⟩
              have e : o = mulI a b := by rw [HO.out, ← HP.out, refMul_end]; exact refI_is h1 g1
              rw [e]; rfl
            | succ m =>
              obtain rfl : z = m := by omega
              have c0 := HB.out.cell (i := m) (by rw [bitsOf_len]; omega)
              rw [bitsOf_get _ _ (by omega)] at c0
              have b0 := bt_lt p m
              have LS := Lib.hid (low_step p m (by omega))
              generalize hq : bt p m = q at *
              clear hq hz
              go_wp2
              go_round
              case rel => exact ⟨m, (m : Int) - 1, 2 * o + q, by omega, by omega, rfl, rfl, out_step HO.out LS.out⟩
              case measure => simp [intOf]
end Go.Proofs.Ytilfjmpoiiepkaa

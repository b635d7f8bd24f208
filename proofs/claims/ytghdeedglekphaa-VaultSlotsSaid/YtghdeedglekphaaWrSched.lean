/- WrSched: merged out of Ref1 RefConst RoundsNum TurnC OpenS SchedC RoundsC. Conditions: as each part says. -/
import Derived.Test.YtghdeedglekphaaWrCipher
import Derived.Test.YtghdeedglekphaaTwBase
import Derived.Test.YtghdeedglekphaaRows
import Derived.WalkKit
import Derived.ProofKit
import Derived.OpenShut
import Derived.Lib.Hide
import Derived.Outline
import Derived.StillTailTactics
import Derived.RangeFuncNested
import Derived.RangeFuncBound
import Derived.RangeFuncCalls
import Derived.RangeFuncLeaves
import Derived.Shelf.Abstract
import Derived.Shelf.RegionOpen
import Derived.OwnWalkIn
import Derived.TacticsInMore
import Derived.LoopNIn
import Derived.LoopIn
import Derived.Deep.LoopGhost
import Derived.Great.BuildSlice
import Derived.Deep.Slices
import Derived.Laws.MakeOwn
import Derived.Laws.ResultCell

/- The contracts of package citadelref01's bit and Mul: each answers what the plain functions below say, and writes nothing that was there. Conditions: the arguments are bytes; a bit's number is from 0 to 100. -/
namespace Go.Proofs.Ytghdeedglekphaa
open Go.ChangeShapes Go.WideShapes Go.ChangeAt Go.RowKit

def bitI (b i : Int) : Int := (b.toNat / 2 ^ i.toNat % 2 : Nat)
set_option maxRecDepth 100000 in
theorem bitI_bd (b i : Int) : 0 ≤ bitI b i ∧ bitI b i ≤ 1 := by unfold bitI; omega

set_option maxHeartbeats 400000 in
set_option maxRecDepth 100000 in
theorem bit_any (b i : Int) (h0 : 0 ≤ b) (h1 : b ≤ 255) (g0 : 0 ≤ i) (g1 : i ≤ 100) (w : World) :
    Calls Try.prog 60 #[.int .u8 b, .int .i64 i] w fun e w' => e = .returned (.int .i64 (bitI b i)) ∧ w = w' := by
  go_enter Try.func60, Try.ntmps60
  go_wp2
  go_loop [0, 5] (fun vb vk => ∃ (k : Nat) (x : Int), (k : Int) ≤ i ∧ 0 ≤ x ∧ x ≤ 255 ∧ vb = .int .u8 x ∧ vk = .int .i64 k ∧ x.toNat = b.toNat / 2 ^ k) (fun _ vk => (i - intOf vk).toNat)
  case atStart => exact ⟨0, b, by omega, h0, h1, rfl, rfl, by simp⟩
  case round =>
    obtain ⟨k, x, hk, x0, x1, rfl, rfl, hx⟩ := hrel
    have HX := Lib.hid hx; clear hx
    by_cases hz : (k : Int) < i
    · go_wp2
      go_round
      case rel => exact ⟨k + 1, x / 2, by omega, by omega, by omega, rfl, by go_num, by have := HX.out; rw [Nat.pow_succ, ← Nat.div_div_eq_div_mul, ← this]; omega⟩
      case measure => simp [intOf]; omega
    · go_wp2
      go_ret
      have e : bitI b i = x % 2 := by
        have := HX.out; unfold bitI; rw [show i.toNat = k by omega, ← this]; omega
      rw [e]; exact ⟨rfl, rfl⟩
set_option maxRecDepth 100000 in
theorem bit_same (b i : Int) (h0 : 0 ≤ b) (h1 : b ≤ 255) (g0 : 0 ≤ i) (g1 : i ≤ 100) (w : World) :
    Calls Try.prog 60 #[.int .u8 b, .int .i64 i] w fun e w' => e = .returned (.int .i64 (bitI b i)) ∧ w' = w :=
  (bit_any b i h0 h1 g0 g1 w).mono fun _ _ ⟨he, hw⟩ => ⟨he, hw.symm⟩

set_option maxRecDepth 100000 in
theorem row_set (a b : Int) (i k p : Nat) {q : Nat} {x y : Int} (hq : bt (rowP a.toNat b.toNat i k p) (i + k) = q) (hx : bitI a i = x) (hy : bitI b k = y) :
    (bitsOf 15 (rowP a.toNat b.toNat i k p)).set (i + k) (((q : Int) + x * y) % 2) = bitsOf 15 (rowP a.toNat b.toNat i (k + 1) p) := by
  subst hq hx hy
  show _ = bitsOf 15 (rowP a.toNat b.toNat i k p ^^^ (bt a.toNat i * bt b.toNat k * 2 ^ (i + k)))
  refine bitsOf_set 15 _ (mul_bt (bt_lt _ _) (bt_lt _ _)) ?_
  rfl

set_option maxHeartbeats 1000000 in
set_option maxRecDepth 100000 in
theorem refMul_any (a b : Int) (h0 : 0 ≤ a) (h1 : a ≤ 255) (g0 : 0 ≤ b) (g1 : b ≤ 255) (w : World) :
    Calls Try.prog 50 #[.int .u8 a, .int .u8 b] w fun e w' => e = .returned (.int .u8 (mulI a b)) ∧ Below w.heap.size w w' := by
  go_enter Try.func50, Try.ntmps50
  go_wp2
  go_loopw [6] (fun v6 wr => ∃ i : Nat, i ≤ 8 ∧ v6 = .int .i64 i ∧ IntBlk wr w.heap.size .i64 98 (bitsOf 15 (allP a.toNat b.toNat i)) ∧ Below w.heap.size w wr) (fun v6 _ => 8 - (intOf v6).toNat)
  case atStart => exact ⟨0, by omega, rfl, IntBlk.new w .i64 98 (bitsOf 15 0), (Below.refl _ _).alloc (Nat.le_refl _) _⟩
  case round =>
    obtain ⟨i, hi, rfl, hblk, hbel⟩ := hrel
    by_cases hlt : i < 8
    · have hd : decide ((i : Int) < 8) = true := by simp; omega
      go_wp2
      go_loopw [7] (fun v7 wk => ∃ k : Nat, k ≤ 8 ∧ v7 = .int .i64 k ∧ IntBlk wk w.heap.size .i64 98 (bitsOf 15 (rowP a.toNat b.toNat i k (allP a.toNat b.toNat i))) ∧ Below w.heap.size w wk) (fun v7 _ => 8 - (intOf v7).toNat)
      case atStart => exact ⟨0, by omega, rfl, hblk, hbel⟩
      case round =>
        obtain ⟨k, hk, rfl, hblk2, hbel2⟩ := hrel
        by_cases hlt2 : k < 8
        · have hc := hblk2.cell (i := i + k) (by rw [bitsOf_len]; omega)
          have hf := hblk2.free (i + k)
          rw [bitsOf_get _ _ (by omega)] at hc
          have bb := bt_lt (rowP a.toNat b.toNat i k (allP a.toNat b.toNat i)) (i + k)
          have b1 := bitI_bd a i
          have b2 := bitI_bd b k
          generalize hbt : bt (rowP a.toNat b.toNat i k (allP a.toNat b.toNat i)) (i + k) = q at hc bb
          have HQ := Lib.hid hbt; clear hbt
          have HB := Lib.hid hblk2; clear hblk2
          have HL := Lib.hid hbel2; clear hbel2
          have BS := fun W => bit_same a i h0 h1 (by omega) (by omega) W
          have BT := fun W => bit_same b k g0 g1 (by omega) (by omega) W
          generalize hx : bitI a i = x at *
          generalize hy : bitI b k = y at *
          have HX := Lib.hid hx; clear hx
          have HY := Lib.hid hy; clear hy
          have m0 : 0 ≤ x * y ∧ x * y ≤ 1 := by
            rcases (show x = 0 ∨ x = 1 by omega) with e | e <;> rw [e] <;> omega
          have e1 : IntKind.i64.wrap ((i : Int) + (k : Int)) = (i : Int) + (k : Int) := IntWalk.i64_in _ (by omega)
          have e2 : 0 ≤ (i : Int) + (k : Int) := by omega
          have e3 : ((i : Int) + (k : Int)).toNat = i + k := by omega
          have e7 : (i : Int) + (k : Int) < 15 := by omega
          have e4 : IntKind.i64.wrap (x * y) = x * y := IntWalk.i64_in _ (by omega)
          have e5 : IntKind.i64.wrap ((q : Int) + x * y) = (q : Int) + x * y := IntWalk.i64_in _ (by omega)
          have e6 : ((q : Int) + x * y).tmod 2 = ((q : Int) + x * y) % 2 := IntWalk.rem_in _ _ (by omega)
          have HBS := Lib.hid BS; clear BS
          have HBT := Lib.hid BT; clear BT
          go_wp2
          refine wp_region_still_tail 18 (by kernel_rfl) (by kernel_rfl) ?_
          simp only [List.take_succ_cons, List.take_zero, List.drop_succ_cons, List.drop_zero]
          change wpStill _ _ wr.drew (fun a' => wpList _ _ _ _ a' wr.drew) _ _
          iterate 10 still_step
          refine wpStill_step (fun K hK => ?_)
          go_simp
          refine ⟨_, HBS.out _, hK _ ?_⟩
          clear hK K
          iterate 2 still_step
          refine wpStill_step (fun K hK => ?_)
          go_simp
          refine ⟨_, HBT.out _, hK _ ?_⟩
          clear hK K
          iterate 4 still_step
          refine wpStill_nil ?_
          go_wp2
          go_roundw
          case rel => exact ⟨k + 1, by omega, by go_num, by rw [← row_set a b i k _ HQ.out HX.out HY.out]; exact (HB.out.set (i + k) _).drew, (HL.out.setCell (Nat.le_refl _) _).drew⟩
          case measure => simp [intOf]; omega
        · obtain rfl : k = 8 := by omega
          have HB := Lib.hid hblk2; clear hblk2
          have HL := Lib.hid hbel2; clear hbel2
          go_wp2
          go_roundw
          case rel => exact ⟨i + 1, by omega, by go_num, HB.out, HL.out⟩
          case measure => simp [intOf]; omega
    · obtain rfl : i = 8 := by omega
      have hd : decide (((8 : Nat) : Int) < 8) = false := rfl
      go_wp2
      go_loopw [8] (fun v8 wk => ∃ n j : Nat, n ≤ 7 ∧ n + j = 14 ∧ v8 = .int .i64 j ∧ IntBlk wk w.heap.size .i64 98 (bitsOf 15 (redP n (allP a.toNat b.toNat 8))) ∧ Below w.heap.size w wk) (fun v8 _ => (intOf v8).toNat - 7)
      case atStart => exact ⟨0, 14, by omega, by omega, rfl, hblk, hbel⟩
      case round =>
        obtain ⟨n, j, hn, hj, rfl, hblk3, hbel3⟩ := hrel
        clear hblk hbel
        by_cases hlt3 : 8 ≤ j
        · have c0 := hblk3.cell (i := j) (by rw [bitsOf_len]; omega)
          have c1 := hblk3.cell (i := j - 8) (by rw [bitsOf_len]; omega)
          have c2 := hblk3.cell (i := j - 7) (by rw [bitsOf_len]; omega)
          have c3 := hblk3.cell (i := j - 5) (by rw [bitsOf_len]; omega)
          have c4 := hblk3.cell (i := j - 4) (by rw [bitsOf_len]; omega)
          have f0 := hblk3.free j
          have f1 := hblk3.free (j - 8)
          have f2 := hblk3.free (j - 7)
          have f3 := hblk3.free (j - 5)
          have f4 := hblk3.free (j - 4)
          rw [bitsOf_get _ _ (by omega)] at c0 c1 c2 c3 c4
          generalize hp : redP n (allP a.toNat b.toNat 8) = p at *
          have HP := Lib.hid hp; clear hp
          have HB := Lib.hid hblk3; clear hblk3
          have HL := Lib.hid hbel3; clear hbel3
          have b0 := bt_lt p j
          have b1 := bt_lt p (j - 8)
          have b2 := bt_lt p (j - 7)
          have b3 := bt_lt p (j - 5)
          have b4 := bt_lt p (j - 4)
          generalize hq0 : bt p j = q0 at *
          generalize hq1 : bt p (j - 8) = q1 at *
          generalize hq2 : bt p (j - 7) = q2 at *
          generalize hq3 : bt p (j - 5) = q3 at *
          generalize hq4 : bt p (j - 4) = q4 at *
          have HQ := Lib.hid (And.intro hq0 (And.intro hq1 (And.intro hq2 (And.intro hq3 hq4))))
          clear hq0 hq1 hq2 hq3 hq4
          by_cases ho : q0 = 1
          · subst ho
            go_wp2
            go_roundw
            case rel =>
              refine ⟨n + 1, j - 1, by omega, by omega, by congr 1; omega, ?_, (((((HL.out.setCell (Nat.le_refl _) _).setCell (Nat.le_refl _) _).setCell (Nat.le_refl _) _).setCell (Nat.le_refl _) _).setCell (Nat.le_refl _) _)⟩
              obtain ⟨g0', g1', g2', g3', g4'⟩ := HQ.out
              rw [redP_step hj, HP.out, ← cut_set hlt3 g0', g1', g2', g3', g4']
              exact ((((HB.out.set j 0).set (j - 8) _).set (j - 7) _).set (j - 5) _).set (j - 4) _
            case measure => simp [intOf]; omega
          · have hz : ((q0 : Int) == 1) = false := by simp; omega
            go_wp2
            go_roundw
            case rel => exact ⟨n + 1, j - 1, by omega, by omega, by congr 1; omega, by rw [redP_step hj, HP.out, cut_no (by rw [HQ.out.1]; exact ho)]; exact HB.out, HL.out⟩
            case measure => simp [intOf]; omega
        · obtain rfl : j = 7 := by omega
          obtain rfl : n = 7 := by omega
          have hd2 : decide (((7 : Nat) : Int) ≥ 8) = false := rfl
          generalize hp : redP 7 (allP a.toNat b.toNat 8) = p at *
          have HP := Lib.hid hp; clear hp
          go_wp2
          go_loop [9, 10] (fun v9 v10 => ∃ (m : Nat) (z o : Int), m ≤ 8 ∧ z + 1 = m ∧ v10 = .int .i64 z ∧ v9 = .int .i64 o ∧ o = (p % 256 / 2 ^ m : Nat)) (fun _ v10 => (intOf v10 + 1).toNat)
          case atStart => exact ⟨8, 7, 0, by omega, by omega, rfl, rfl, by rw [out_start]; rfl⟩
          case round =>
            obtain ⟨m, z, o, hm, hz, rfl, rfl, ho⟩ := hrel
            have HB := Lib.hid hblk3
            have HL := Lib.hid hbel3
            clear hblk3 hbel3
            have ob := out_bd ho
            have HO := Lib.hid ho; clear ho
            cases m with
            | zero =>
              obtain rfl : z = -1 := by omega
              clear hz hm
              go_wp2
              go_ret
              refine ⟨?_, HL.out⟩
              have e : o = mulI a b := by rw [HO.out, ← HP.out, refMul_end]; exact refI_is h1 g1
              rw [e]; rfl
            | succ m =>
              obtain rfl : z = m := by omega
              have c0 := HB.out.cell (i := m) (by rw [bitsOf_len]; omega)
              rw [bitsOf_get _ _ (by omega)] at c0
              have b0 := bt_lt p m
              have LS := Lib.hid (low_step p m (by omega))
              generalize hq : bt p m = q at *
              clear hq hz
              go_wp2
              go_round
              case rel => exact ⟨m, (m : Int) - 1, 2 * o + q, by omega, by omega, rfl, rfl, out_step HO.out LS.out⟩
              case measure => simp [intOf]
end Go.Proofs.Ytghdeedglekphaa

/- The contract of package citadelref02's Constant: a power of 2, if there is such a round, else 0; and it writes nothing that was there. Condition: the argument is an int. -/
namespace Go.Proofs.Ytghdeedglekphaa
open Go.ChangeShapes Go.WideShapes Go.ChangeAt Go.RowKit

theorem Constant_any (i : Int) (w : World) :
    Calls Try.prog 64 #[.int .i64 i] w fun e w' => e = .returned (.agg (cellsOf .u8 (mk 4 (oneK (conN i))))) ∧ Below w.heap.size w w' := by
  by_cases h : i < 1 ∨ 60 < i
  · exact Constant_out i h w
  · obtain ⟨M, rfl⟩ : ∃ M : Nat, i = M := ⟨i.toNat, by omega⟩
    exact Constant_in M (by omega) (by omega) w

set_option maxHeartbeats 400000 in
theorem refConst_any (i : Int) (w : World) :
    Calls Try.prog 40 #[.int .i64 i] w fun e w' => e = .returned (.int .u8 (conI i)) ∧ Below w.heap.size w w' := by
  by_cases h : i < 1 ∨ 60 < i
  · have hc : conI i = 0 := by unfold conI; rw [if_neg (by omega)]
    rw [hc]
    by_cases h1 : i < 1
    · have hd : decide (i < 1) = true := by simpa using h1
      go_enter Try.func40, Try.ntmps40
      go_wp2
      go_ret
      exact ⟨rfl, Below.refl _ _⟩
    · have h2 : 60 < i := by omega
      have hd : decide (i < 1) = false := by simpa using h1
      have hd2 : decide (60 < i) = true := by simpa using h2
      go_enter Try.func40, Try.ntmps40
      go_wp2
      go_ret
      exact ⟨rfl, Below.refl _ _⟩
  · obtain ⟨M, rfl⟩ : ∃ M : Nat, i = M := ⟨i.toNat, by omega⟩
    have h1 : 1 ≤ M := by omega
    have h2 : M ≤ 60 := by omega
    rw [conI_in rfl h1 h2]
    have hd : decide ((M : Int) < 1) = false := by simp; omega
    have hd2 : decide (60 < (M : Int)) = false := by simp; omega
    go_enter Try.func40, Try.ntmps40
    go_wp2
    go_loopw [3, 4] (fun v3 v4 wr => ∃ (k n : Nat), k < M ∧ n = k + 1 ∧ v3 = .int .u8 (powI 2 k) ∧ v4 = .int .i64 n ∧ Below w.heap.size w wr) (fun _ v4 _ => M - (intOf v4).toNat)
    case atStart => exact ⟨0, 1, by omega, rfl, rfl, rfl, Below.refl _ _⟩
    case round =>
      obtain ⟨k, n, hk, hn, rfl, rfl, hbel⟩ := hrel
      have HL := Lib.hid hbel; clear hbel
      have pb := powI_bd (b := 2) k
      by_cases hz : n < M
      · have hn' : k + 1 < M := by omega
        have HN := Lib.hid hn; clear hn
        go_wp2_with (go_at_call 50; refine (refMul_any _ _ pb.1 pb.2 (by omega) (by omega) _).mono ?_; rintro e w' ⟨rfl, hb⟩)
        go_roundw
        case rel => exact ⟨k + 1, n + 1, hn', by rw [HN.out], rfl, by go_num, HL.out.trans (hb.mono HL.out.size)⟩
        case measure => simp [intOf]; omega
      · obtain rfl : n = M := by omega
        have e := Lib.hid (show k = n - 1 by omega)
        clear hn
        have ht : decide ((n : Int) < (n : Int)) = false := by simp
        go_wp2
        go_ret
        rw [e.out]; exact ⟨rfl, HL.out⟩
end Go.Proofs.Ytghdeedglekphaa

/- Plain mathematics of the round keys: the words, one behind the other. Condition: the key's bytes are bytes. -/
namespace Go.Proofs.Ytghdeedglekphaa
open Go

/-- What the word ahead adds to word k. -/
def tnK (N k : Nat) (t : Nat → Nat) : Nat → Nat := if k % N = 0 then xorK (subK (turnK t)) (oneK (conN (k / N : Nat))) else if N = 8 ∧ k % 8 = 4 then subK t else t
def newW (N : Nat) (g : Nat → Nat) (W : Nat → Nat → Nat) (k : Nat) : Nat → Nat := if k < N then fun j => g (4 * k + j) else xorK (W (k - N)) (tnK N k (W (k - 1)))
/-- The first k words. -/
def wdTo (N : Nat) (g : Nat → Nat) : Nat → Nat → Nat → Nat
  | 0 => fun _ _ => 0
  | k + 1 => fun i => if i = k then newW N g (wdTo N g k) k else wdTo N g k i
/-- Words in a row. -/
def flat (W : Nat → Nat → Nat) : Nat → Nat := fun p => W (p / 4) (p % 4)
theorem turnK_word {t : Nat → Nat} (h : IsWord t) : IsWord (turnK t) := fun i _ => h _ (by omega)
theorem subK_word {t : Nat → Nat} (h : IsWord t) : IsWord (subK t) := fun i hi => subN_lt (h i hi)
theorem conN_lt (i : Int) : conN i < 256 := by have := conI_bd i; have := conN_is i; omega
theorem oneK_word {n : Nat} (h : n < 256) : IsWord (oneK n) := fun j _ => by unfold oneK; split <;> omega
theorem xorW_word {f g : Nat → Nat} (hf : IsWord f) (hg : IsWord g) : IsWord (xorK f g) := fun j hj => xor_lt (hf j hj) (hg j hj)
theorem tnK_word {t : Nat → Nat} (N k : Nat) (h : IsWord t) : IsWord (tnK N k t) := by
  unfold tnK; split
  · exact xorW_word (subK_word (turnK_word h)) (oneK_word (conN_lt _))
  · split
    · exact subK_word h
    · exact h
theorem newW_word {N : Nat} {g : Nat → Nat} {W : Nat → Nat → Nat} {k : Nat} (hg : ∀ i, i < 4 * N → g i < 256) (hW : ∀ i, IsWord (W i)) : IsWord (newW N g W k) := by
  unfold newW; split
  · intro j hj; exact hg _ (by omega)
  · exact xorW_word (hW _) (tnK_word _ _ (hW _))
theorem wdTo_word {N : Nat} {g : Nat → Nat} (hg : ∀ i, i < 4 * N → g i < 256) : ∀ k i, IsWord (wdTo N g k i)
  | 0, _ => fun _ _ => by unfold wdTo; omega
  | k + 1, i => by
    show IsWord (if i = k then newW N g (wdTo N g k) k else wdTo N g k i)
    split
    · exact newW_word hg (wdTo_word hg k)
    · exact wdTo_word hg k i
theorem wdTo_next (N : Nat) (g : Nat → Nat) (k i : Nat) : wdTo N g (k + 1) i = if i = k then newW N g (wdTo N g k) k else wdTo N g k i := rfl
/-- A word, once it is made, stays. -/
theorem wdTo_stays (N : Nat) (g : Nat → Nat) {i : Nat} : ∀ {k m : Nat}, i < k → k ≤ m → wdTo N g m i = wdTo N g k i
  | k, m, h1, h2 => by
    induction m with
    | zero => omega
    | succ m ih =>
      rcases (show k = m + 1 ∨ k ≤ m by omega) with rfl | h
      · rfl
      · rw [wdTo_next, if_neg (by omega)]; exact ih h
theorem flat_start (M N : Nat) (g : Nat → Nat) : mk M (flat (wdTo N g 0)) = mk M zeroK := rfl
theorem flat_step (M N : Nat) (g : Nat → Nat) (k : Nat) : mk M (put (flat (wdTo N g k)) (4 * k) 4 (newW N g (wdTo N g k) k)) = mk M (flat (wdTo N g (k + 1))) := mk_ext fun p _ => by
  unfold put flat
  rw [wdTo_next]
  by_cases h : 4 * k ≤ p ∧ p < 4 * k + 4
  · rw [if_pos h, if_pos (show p / 4 = k by omega), show p % 4 = p - 4 * k by omega]
  · rw [if_neg h, if_neg (by omega)]
theorem flat_word (W : Nat → Nat → Nat) (i : Nat) : ∀ j, j < 4 → flat W (4 * i + j) = W i j := fun j hj => by
  unfold flat; rw [show (4 * i + j) / 4 = i by omega, show (4 * i + j) % 4 = j by omega]
theorem newW_key {N : Nat} (g : Nat → Nat) (W : Nat → Nat → Nat) {k : Nat} (h : k < N) : newW N g W k = fun j => g (4 * k + j) := by unfold newW; rw [if_pos h]
theorem newW_more {N : Nat} (g : Nat → Nat) (W : Nat → Nat → Nat) {k : Nat} (h : ¬ k < N) : newW N g W k = xorK (W (k - N)) (tnK N k (W (k - 1))) := by unfold newW; rw [if_neg h]
theorem tnK_turn {N k : Nat} (t : Nat → Nat) (h : k % N = 0) : tnK N k t = xorK (subK (turnK t)) (oneK (conN (k / N : Nat))) := by unfold tnK; rw [if_pos h]
theorem tnK_sub {N k : Nat} (t : Nat → Nat) (h : ¬ k % N = 0) (h8 : N = 8 ∧ k % 8 = 4) : tnK N k t = subK t := by unfold tnK; rw [if_neg h, if_pos h8]
theorem tnK_same {N k : Nat} (t : Nat → Nat) (h : ¬ k % N = 0) (h8 : ¬ (N = 8 ∧ k % 8 = 4)) : tnK N k t = t := by unfold tnK; rw [if_neg h, if_neg h8]
/-- The round keys of a key of N words. -/
def rkS (N : Nat) (g : Nat → Nat) : Nat → Nat → Nat := fun i j => flat (wdTo N g (4 * N + 28)) (i * 16 + j)
theorem rkS_key {N : Nat} {g : Nat → Nat} (hg : ∀ i, i < 4 * N → g i < 256) (i : Nat) : IsKey (rkS N g i) := fun j _ => wdTo_word hg _ _ _ (by omega)
end Go.Proofs.Ytghdeedglekphaa

/- The contract of package cipher's turn: it answers what the word ahead adds, and writes nothing that was there. Conditions: the word's bytes are bytes; a key has at least one word. -/
namespace Go.Proofs.Ytghdeedglekphaa
open Go.ChangeShapes Go.WideShapes Go.ChangeAt Go.RowKit

theorem subWord_k (f : Nat → Nat) (hf : IsWord f) (w : World) : Calls Try.prog 62 #[.agg (cellsOf .u8 (mk 4 f))] w fun e w' => e = .returned (.agg (cellsOf .u8 (mk 4 (subK f)))) ∧ Below w.heap.size w w' := SubWord_any f hf w
theorem call_rotate (args : Array Value) (w : World) : (callFunc 63 args).run Try.prog w = .ok (.enter 63 args) w := by simp [go_sem]
theorem call_subword (args : Array Value) (w : World) : (callFunc 62 args).run Try.prog w = .ok (.enter 62 args) w := by simp [go_sem]
theorem call_constant (args : Array Value) (w : World) : (callFunc 64 args).run Try.prog w = .ok (.enter 64 args) w := by simp [go_sem]
theorem call_add (args : Array Value) (w : World) : (callFunc 55 args).run Try.prog w = .ok (.enter 55 args) w := by simp [go_sem]
theorem quiet_int_quo {o : Oper} {a : Act} {C : World → Prop} {K : Act → Prop} (x y : Operand) (ho : o.op = .binOp .quo 3 x y 3) (i j r : Int) (hx : a.eval x = .int .i64 i) (hy : a.eval y = .int .i64 j) (hj : j ≠ 0)
    (h : IntKind.i64.wrap (i.tdiv j) = r) (hk : K (a.put o.dst (.int .i64 r))) : o.quiet Try.prog a C K := by
  refine quiet_value _ (fun w _ => ?_) hk
  unfold execOp
  simp only [ho, hx, hy]
  simp [go_sem, h, hj]
attribute [local irreducible] subK turnK xorK oneK conN

set_option maxRecDepth 100000 in
set_option maxHeartbeats 2000000 in
theorem turn_any (f : Nat → Nat) (hf : IsWord f) (i n : Nat) (hn : 0 < n) (hn2 : n < 1000) (hi : i < 4294967296) (w : World) :
    Calls Try.prog 56 #[.agg (cellsOf .u8 (mk 4 f)), .int .i64 i, .int .i64 n] w fun e w' => e = .returned (.agg (cellsOf .u8 (mk 4 (tnK n i f)))) ∧ Below w.heap.size w w' := by
  have nz2 : ¬ ((n : Int) = 0) := by omega
  have q0 : IntKind.i64.wrap ((i : Int).tdiv (n : Int)) = ((i / n : Nat) : Int) := by
    rw [Int.tdiv_eq_ediv_of_nonneg (by omega)]
    have h1 : i / n ≤ i := Nat.div_le_self _ _
    rw [show (i : Int) / (n : Int) = ((i / n : Nat) : Int) by simp]
    generalize i / n = q at *
    exact IntWalk.i64_in _ (by omega)
  have A1 := (IntBlk.new w .u8 87 (mk 4 f)).alloc (.cells (cellsOf .u8 (mk 4 zeroK)) 87)
  have Z1 := blk_two w .u8 87 (mk 4 zeroK) (.cells (cellsOf .u8 (mk 4 f)) 87)
  have L1 := below_two w (.cells (cellsOf .u8 (mk 4 f)) 87) (.cells (cellsOf .u8 (mk 4 zeroK)) 87)
  have HA := Lib.hid A1
  have HZ := Lib.hid Z1
  have HL := Lib.hid L1
  clear A1 Z1 L1
  by_cases h0 : i % n = 0
  · have t0 : ((i : Int) % (n : Int) == 0) = true := by
      have : (i : Int) % (n : Int) = ((i % n : Nat) : Int) := by simp
      rw [this, h0]; rfl
    rw [tnK_turn f h0]
    have k1 := turnK_word hf
    have k2 := subK_word k1
    have k3 := oneK_word (conN_lt ((i / n : Nat) : Int))
    clear h0
    go_enter Try.func56, Try.ntmps56
    go_wp2
    change Code.wp _ _ _ _ ((w.alloc (.cells (cellsOf .u8 (mk 4 f)) 87)).alloc (.cells (cellsOf .u8 (mk 4 zeroK)) 87))
    have BA := HA.out
    have BZ := HZ.out
    have BL := HL.out
    clear HA HZ HL
    generalize (w.alloc (.cells (cellsOf .u8 (mk 4 f)) 87)).alloc (.cells (cellsOf .u8 (mk 4 zeroK)) 87) = W0 at *
    have AC := Lib.hid (fun (w' : World) (h : Below W0.heap.size W0 w') => BA.below h BA.lt)
    have ZC := Lib.hid (fun (w' : World) (h : Below W0.heap.size W0 w') => BZ.below h BZ.lt)
    have LC := Lib.hid (fun (w' : World) (h : Below W0.heap.size W0 w') => BL.trans (h.mono BL.size))
    clear BA BZ BL
    refine wp_region_class_tail 8 (fun w' => Below W0.heap.size W0 w') (by kernel_rfl) (by kernel_rfl) ((Below.refl _ _).drew) ?_
    simp only [List.take_succ_cons, List.take_zero, List.drop_succ_cons, List.drop_zero]
    iterate 8 (first
      | go_big_quiet_skip
      | (go_big_quiet_want
         first
           | (go_big_quiet_op; go_big_quiet_on)
           | ((first
               | (refine quiet_word_load _ rfl w.heap.size f rfl AC.out ?_)
               | (refine quiet_int_quo _ _ rfl (i : Int) (n : Int) ((i / n : Nat) : Int) rfl rfl nz2 q0 ?_)
               | (refine quiet_word _ _ _ rfl 63 rfl f rfl (turnK f) call_rotate (class_of (Rotate_any f)) ?_)
               | (refine quiet_word _ _ _ rfl 62 rfl (turnK f) rfl (subK (turnK f)) call_subword (class_of (subWord_k _ k1)) ?_)
               | (refine quiet_int _ _ _ rfl 64 rfl ((i / n : Nat) : Int) rfl _ call_constant (class_of (Constant_any ((i / n : Nat) : Int))) ?_)
               | (refine quiet_words _ _ _ _ rfl 55 rfl (subK (turnK f)) rfl (oneK (conN ((i / n : Nat) : Int))) rfl _ call_add (class_of (add_any _ _ k2 k3)) ?_)); go_simp; go_big_quiet_on)))
    refine wpQuiet_nil ?_
    intro w1 hw1
    have HZ := Lib.hid (ZC.out _ hw1)
    have HL := Lib.hid (LC.out _ hw1); clear hw1 AC ZC LC
    go_wp2_with (refine wpList_store_row rfl 87 _ _ rfl (w.heap.size + 1) _ rfl rfl 87 (cellsOf .u8 (mk 4 zeroK)) HZ.out (wordSize _) (by rw [cellsOf_size, cellsOf_size, mk_len, mk_len]) (cellsOf_one _ _) ?_)
    refine bodyPost_ret (results_cell_row rfl _ _ (w.heap.size + 1) 87 (cellsOf .u8 (mk 4 (xorK (subK (turnK f)) (oneK (conN ((i / n : Nat) : Int)))))) (0, 0) _ rfl (HZ.out.setRow .u8 (mk 4 (xorK (subK (turnK f)) (oneK (conN ((i / n : Nat) : Int)))))) wordUnder rfl (wordSize _)) rfl ⟨rfl, below_setRow HL.out (by omega) _⟩
  · have t0 : ((i : Int) % (n : Int) == 0) = false := by
      have : (i : Int) % (n : Int) = ((i % n : Nat) : Int) := by simp
      rw [this]; simp only [beq_eq_false_iff_ne, ne_eq]; omega
    by_cases h8 : n = 8 ∧ i % 8 = 4
    · rw [tnK_sub f h0 h8]
      have n8 : ((n : Int) == 8) = true := by simp; omega
      have i8 : ((i : Int) % 8 == 4) = true := by simp; omega
      clear h0 h8
      go_enter Try.func56, Try.ntmps56
      go_wp2_with (first
        | (refine wpList_load_row rfl 87 _ rfl w.heap.size rfl 87 (cellsOf .u8 (mk 4 f)) (0, 0) _ HA.out wordUnder rfl (wordSize f) ?_)
        | fail)
      refine (subWord_k f hf _).mono ?_
      rintro e w1 ⟨rfl, hb⟩
      have HZ1 := Lib.hid (HZ.out.below hb HZ.out.lt)
      have HL1 := Lib.hid (HL.out.trans (hb.mono HL.out.size))
      clear hb HA HZ HL
      go_wp2_with (refine wpList_store_row rfl 87 _ _ rfl (w.heap.size + 1) _ rfl rfl 87 (cellsOf .u8 (mk 4 zeroK)) HZ1.out (wordSize _) (by rw [cellsOf_size, cellsOf_size, mk_len, mk_len]) (cellsOf_one _ _) ?_)
      refine bodyPost_ret (results_cell_row rfl _ _ (w.heap.size + 1) 87 (cellsOf .u8 (mk 4 (subK f))) (0, 0) _ rfl (HZ1.out.setRow .u8 (mk 4 (subK f))) wordUnder rfl (wordSize _)) rfl ⟨rfl, below_setRow HL1.out (by omega) _⟩
    · rw [tnK_same f h0 h8]
      by_cases n8 : n = 8
      · have b8 : ((n : Int) == 8) = true := by simp; omega
        have i8 : ((i : Int) % 8 == 4) = false := by simp; omega
        clear h0 h8 n8
        go_enter Try.func56, Try.ntmps56
        go_wp2_with (first
          | (refine wpList_load_row rfl 87 _ rfl w.heap.size rfl 87 (cellsOf .u8 (mk 4 f)) (0, 0) _ HA.out wordUnder rfl (wordSize f) ?_)
          | (refine wpList_store_row rfl 87 _ _ rfl (w.heap.size + 1) _ rfl rfl 87 (cellsOf .u8 (mk 4 zeroK)) HZ.out (wordSize _) (by rw [cellsOf_size, cellsOf_size, mk_len, mk_len]) (cellsOf_one _ _) ?_))
        refine bodyPost_ret (results_cell_row rfl _ _ (w.heap.size + 1) 87 (cellsOf .u8 (mk 4 f)) (0, 0) _ rfl (HZ.out.setRow .u8 (mk 4 f)) wordUnder rfl (wordSize _)) rfl ⟨rfl, below_setRow HL.out (by omega) _⟩
      · have b8 : ((n : Int) == 8) = false := by simp; omega
        clear h0 h8 n8
        go_enter Try.func56, Try.ntmps56
        go_wp2_with (first
          | (refine wpList_load_row rfl 87 _ rfl w.heap.size rfl 87 (cellsOf .u8 (mk 4 f)) (0, 0) _ HA.out wordUnder rfl (wordSize f) ?_)
          | (refine wpList_store_row rfl 87 _ _ rfl (w.heap.size + 1) _ rfl rfl 87 (cellsOf .u8 (mk 4 zeroK)) HZ.out (wordSize _) (by rw [cellsOf_size, cellsOf_size, mk_len, mk_len]) (cellsOf_one _ _) ?_))
        refine bodyPost_ret (results_cell_row rfl _ _ (w.heap.size + 1) 87 (cellsOf .u8 (mk 4 f)) (0, 0) _ rfl (HZ.out.setRow .u8 (mk 4 f)) wordUnder rfl (wordSize _)) rfl ⟨rfl, below_setRow HL.out (by omega) _⟩
end Go.Proofs.Ytghdeedglekphaa

/- Slices of keys, and of bytes, that come in as arguments, opened: functions from places to bytes. No condition. -/
namespace Go.Proofs.Ytghdeedglekphaa
open Go.ChangeShapes Go.WideShapes Go.ChangeAt Go.RowKit

set_option maxRecDepth 100000 in
theorem bytes_of_row {H : Type} {enc : TypeId × Value → H} {P : Program} {W : World} {base fuel : Nat} {spare : Nat → Bool} {held : Bool} {t e : TypeId} {n : Nat} {cs : List Value} {x : DataW H × List MemPlace}
    (ht : P.underlying t = some (.array n e)) (he : P.underlying e = some (.int .u8)) (hc : P.cellsOf e = 1) (h : DataW.trod enc P W base spare held fuel t cs = some x) : ∀ i, i < n → ∃ a : Nat, a < 256 ∧ cs[i]? = some (.int .u8 a) := by
  obtain ⟨xs, m, rfl, hx, hlen, hxn, hel⟩ := DataW.trod_array ht h
  intro i hi
  have hi2 := hel i hi
  rw [hc, Nat.mul_one] at hi2
  have hlt : i < xs.length := by omega
  rw [List.getElem?_eq_getElem hlt] at hi2
  obtain ⟨a, ha, _, hw⟩ := DataW.trod_int he hi2
  have hb := bounds_u8 hw
  refine ⟨a.toNat, by omega, ?_⟩
  rw [show ((a.toNat : Nat) : Int) = a by omega]
  have h0 : (List.take 1 (List.drop i cs))[0]? = some (.int .u8 a) := by rw [ha]; rfl
  rw [List.getElem?_take_of_lt (by omega), List.getElem?_drop] at h0
  simpa using h0
set_option maxRecDepth 100000 in
theorem open_keys {H : Type} {enc : TypeId × Value → H} {W : World} {r : Reach} {b0 base : Nat} {spare : Nat → Bool} {held : Bool} {v : Value} {d : DataW H} {p : List MemPlace}
    (hv : Value.okWide Try.prog W r b0 61 v) (h : DataW.Trod enc Try.prog W base spare held 61 v d p) :
    ∃ (q : Option Addr) (n cap : Nat) (R : Nat → Nat → Nat), v = .slice q n cap ∧ (∀ i, i < n → IsKey (R i)) ∧ KeysAt W q n R := by
  have ht : Try.prog.underlying 61 = some (.slice 65) := Try.underlying61
  have ck : Try.prog.cellsOf 65 = 16 := by kernel_rfl
  obtain ⟨q, n, cap, rfl⟩ := okWide_slice ht hv
  obtain ⟨fuel, hf⟩ := h
  have hd : (Value.cells (.slice q n cap)).toList = [.slice q n cap] := rfl
  rw [hd] at hf
  rcases Deep.open_slice ht hf with ⟨h0, _⟩ | ⟨a, len, cap', m, k, D, Pl, h0, hb, hl, hm, hmm, _, hx⟩
  · simp only [List.cons.injEq, Value.slice.injEq, and_true] at h0
    obtain ⟨rfl, rfl, rfl⟩ := h0
    exact ⟨none, 0, 0, fun _ => zeroK, rfl, fun i hi => absurd hi (Nat.not_lt_zero _), .inl rfl⟩
  · simp only [List.cons.injEq, Value.slice.injEq, and_true] at h0
    obtain ⟨rfl, rfl, rfl⟩ := h0
    rw [ck] at hx
    by_cases h0 : n = 0
    · exact ⟨some a, n, cap, fun _ => zeroK, rfl, fun i hi => absurd hi (by omega), .inl h0⟩
    · have hnm : n ≤ m := by rw [hmm]; split <;> omega
      have each : ∀ i, i < n → ∀ j, j < 16 → ∃ x : Nat, x < 256 ∧ W.cell? (a.add (i * 16 + j)) = some (.int .u8 x) := fun i hi j hj => by
        obtain ⟨cs', h1, h2⟩ := hx i (by omega)
        obtain ⟨_, hlen, hc⟩ := World.cells?_some h1
        obtain ⟨x, hx1, hx2⟩ := bytes_of_row keyUnder Try.underlying5 (by kernel_rfl) h2 j hj
        refine ⟨x, hx1, ?_⟩
        have := hc j hj
        rw [Deep.add_add] at this
        rw [this, hx2]
      obtain ⟨B, o, spot⟩ := a
      obtain ⟨x0, _, hx0⟩ := each 0 (by omega) 0 (by omega)
      have hspot : spot = none := by simpa [Addr.add] using World.cell?_spot hx0
      subst hspot
      simp only [add_plain] at each hx0
      refine ⟨_, n, cap, fun i j => byteAt W B (o + (i * 16 + j)), rfl, fun i hi j hj => ?_, .inr ⟨B, o, rfl, block_lt_of_cell hx0, fun i hi j hj => ?_⟩⟩
      · obtain ⟨x, hx1, hx2⟩ := each i hi j hj
        show byteAt W B (o + (i * 16 + j)) < 256
        rw [byteAt_is hx2]; exact hx1
      · obtain ⟨x, hx1, hx2⟩ := each i hi j hj
        show W.cell? ⟨B, o + i * 16 + j, none⟩ = some (.int .u8 (byteAt W B (o + (i * 16 + j)) : Nat))
        rw [Nat.add_assoc, byteAt_is hx2]; exact hx2

end Go.Proofs.Ytghdeedglekphaa

/- The contract of package cipher's schedule: it answers a slice of all words of a key, in memory of its own, and writes nothing that was there. Conditions: the key has four or eight words; its bytes are bytes. -/
namespace Go.Proofs.Ytghdeedglekphaa
open Go.ChangeShapes Go.WideShapes Go.ChangeAt Go.RowKit

theorem wordsUnder : Try.prog.underlying 86 = some (.slice 87) := Try.underlying86
theorem wordInfo1 : (Try.prog.info? 87).map (·.size) = some 4 := by kernel_rfl
theorem wordZero1 : (Try.prog.info? 87).bind (·.zero) = some (.agg (cellsOf .u8 (mk 4 zeroK))) := by kernel_rfl
theorem wordBytes : (Try.prog.info? 87).map (·.bytes) = some 4 := by kernel_rfl
theorem wpList_make_words {ops : Array Oper} {rest : List Oper} {o : Oper} {a : Act} {w : World} {Q : Exit → Act → World → Prop} (hgd : o.guard = none) (x y : Operand) (ho : o.op = .makeSlice 86 x y) (M : Nat) (hM : M ≤ 1000) (hx : a.eval x = .int .i64 M) (hy : a.eval y = .int .i64 M)
    (h : wpList Try.prog ops Q rest (a.put o.dst (.slice (some ⟨w.heap.size, 0, none⟩) M M)) (w.alloc (.cells (cellsOf .u8 (mk (M * 4) zeroK)) 87))) : wpList Try.prog ops Q (o :: rest) a w :=
  wpList_plain hgd fun _ hK => by
    have hi := wordInfo1
    have hz := wordZero1
    have hb := wordBytes
    cases hq : Try.prog.info? 87 with
    | none => rw [hq] at hi; simp at hi
    | some i =>
      rw [hq] at hi hz hb
      have hsz : i.size = 4 := by simpa using hi
      have hzz : i.zero = some (.agg (cellsOf .u8 (mk 4 zeroK))) := by simpa using hz
      have hby : i.bytes = 4 := by simpa using hb
      have e := run_make (P := Try.prog) w 86 87 i _ wordsUnder hq hzz .i64 .i64 M M (by omega) (by omega) (by rw [hby]; omega) (by omega)
      have hc : (Value.agg (cellsOf .u8 (mk 4 zeroK))).cells = cellsOf .u8 (mk 4 zeroK) := rfl
      rw [hsz, Int.toNat_natCast, made_zero hc (by omega)] at e
      unfold Oper.wp execOp
      simp only [ho]
      simp [hx, hy, e]
      exact hK _ _ h
theorem flat_steps (M N : Nat) (g : Nat → Nat) (k : Nat) : mk M (put (flat (wdTo N g k)) (k * 4) 4 (newW N g (wdTo N g k) k)) = mk M (flat (wdTo N g (k + 1))) := by rw [Nat.mul_comm k 4]; exact flat_step M N g k
theorem flat_cells {w : World} {B M : Nat} {t : TypeId} {W : Nat → Nat → Nat} (h : IntBlk w B .u8 t (mk (M * 4) (flat W))) {a : Nat} (ha : a < M) : Cells w B (a * 4) 4 (W a) := fun j hj => by
  have := h.cells (o := a * 4) (n := 4) (by omega) j hj
  rw [this]
  show some (Value.int .u8 (flat W (a * 4 + j) : Nat)) = _
  rw [Nat.mul_comm a 4, flat_word W a j hj]
theorem quiet_int_sub {o : Oper} {a : Act} {C : World → Prop} {K : Act → Prop} (x y : Operand) (ho : o.op = .binOp .sub 3 x y 3) (i j r : Int) (hx : a.eval x = .int .i64 i) (hy : a.eval y = .int .i64 j)
    (h : IntKind.i64.wrap (i - j) = r) (hk : K (a.put o.dst (.int .i64 r))) : o.quiet Try.prog a C K := by
  refine quiet_value _ (fun w _ => ?_) hk
  unfold execOp
  simp only [ho, hx, hy]
  simp [go_sem, h]
theorem quiet_turn {o : Oper} {a : Act} {C : World → Prop} {K : Act → Prop} (x y z u : Operand) (ts : Array TypeId) (ho : o.op = .call { callee := .value x, args := #[y, z, u], argTypes := ts }) (hx : a.eval x = .func (.func 56) #[] #[])
    (f : Nat → Nat) (hy : a.eval y = .agg (cellsOf .u8 (mk 4 f))) (i j : Int) (hz : a.eval z = .int .i64 i) (hu : a.eval u = .int .i64 j) (r : Nat → Nat)
    (hc : ∀ w, C w → Calls Try.prog 56 #[.agg (cellsOf .u8 (mk 4 f)), .int .i64 i, .int .i64 j] w fun e w' => e = .returned (.agg (cellsOf .u8 (mk 4 r))) ∧ C w') (hk : K (a.put o.dst (.agg (cellsOf .u8 (mk 4 r))))) : o.quiet Try.prog a C K :=
  quiet_calls x #[y, z, u] ts ho 56 _ _ hx (by simp only [List.map_toArray, List.map_cons, List.map_nil, hy, hz, hu]) (fun w => by simp [go_sem]) hc hk
attribute [local irreducible] wdTo newW tnK flat xorK

set_option maxRecDepth 100000 in
set_option maxHeartbeats 4000000 in
theorem schedule_any (p : Option Addr) (n cap N M : Nat) (g : Nat → Nat) (hn : n = 4 * N) (hN : N = 4 ∨ N = 8) (hM : M = 4 * N + 28) (hcap : n ≤ cap) (hg : ∀ i, i < n → g i < 256) (w : World) (hp : BytesAt w p n g) :
    Calls Try.prog 46 #[.slice p n cap] w fun e w' => e = .returned (.slice (some ⟨w.heap.size, 0, none⟩) M M) ∧ IntBlk w' w.heap.size .u8 87 (mk (M * 4) (flat (wdTo N g M))) ∧ Below w.heap.size w w' := by
  have hgw : ∀ i, i < 4 * N → g i < 256 := fun i hi => hg i (by omega)
  have q4 : (n : Int) / 4 = (N : Int) := by omega
  have qM : 4 * (N : Int) + 28 = (M : Int) := by omega
  have hN8 : N ≤ 8 := by omega
  have hN0 : 0 < N := by omega
  have hM1 : M ≤ 1000 := by omega
  rcases hp with hp | ⟨KB, ko, rfl, hKB, hc⟩
  · omega
  have HN := Lib.hid (And.intro hn hM)
  clear hn hM
  go_enter Try.func46, Try.ntmps46
  go_wp2_with (first
    | (refine wpList_make_words rfl _ _ rfl M hM1 rfl rfl ?_)
    | fail)
  clear q4 qM
  go_loopw [15] (fun v15 wr => ∃ k : Nat, k ≤ M ∧ v15 = .int .i64 k ∧ IntBlk wr w.heap.size .u8 87 (mk (M * 4) (flat (wdTo N g k))) ∧ Below w.heap.size w wr) (fun v15 _ => M - (intOf v15).toNat)
  case atStart => exact ⟨0, by omega, rfl, by unfold wdTo flat; exact IntBlk.new w .u8 87 (mk (M * 4) zeroK), (Below.refl _ _).alloc (Nat.le_refl _) _⟩
  case round =>
    obtain ⟨k, hk, rfl, hd, hw⟩ := hrel
    have HD := Lib.hid hd
    have HW := Lib.hid hw
    by_cases hlt : k < M
    · have t1 : decide ((k : Int) < (M : Int)) = true := by simp; omega
      by_cases hkN : k < N
      · have t2 : decide ((k : Int) < (N : Int)) = true := by simp; omega
        have hn := HN.out.1
        have hb4 : 4 * k + 4 ≤ n := by omega
        have hne : ¬ (cap = 4 * k) := by omega
        have hfit : 4 * k + 4 ≤ M * 4 := by omega
        have CK : Cells wr KB (ko + 4 * k) 4 (fun j => g (4 * k + j)) := fun j hj => by
          have := (hc.below hw hKB) (4 * k + j) (by omega)
          rw [show ko + 4 * k + j = ko + (4 * k + j) by omega]; exact this
        have HV := Lib.hid (newW_key g (wdTo N g k) hkN)
        have CC := Lib.hid CK
        clear hd hw hn CK
        have e1 : (k : Int) < M := by omega
        have e2 : (0 : Int) ≤ k := by omega
        have e3 : IntKind.i64.wrap (4 * (k : Int)) = 4 * (k : Int) := IntWalk.i64_in _ (by omega)
        have e4 : (0 : Int) ≤ 4 * (k : Int) := by omega
        have e5 : 4 * (k : Int) ≤ n := by omega
        have e6 : (4 * (k : Int)).toNat = 4 * k := by omega
        go_wp2
        refine wp_region_still_tail 8 (by kernel_rfl) (by kernel_rfl) ?_
        simp only [List.take_succ_cons, List.take_zero, List.drop_succ_cons, List.drop_zero]
        change wpStill _ _ wr.drew (fun a' => wpList _ _ _ _ a' wr.drew) _ _
        iterate 8 still_step
        refine wpStill_nil ?_
        refine wpList_copy_part rfl _ _ _ _ rfl 5 bytesUnder byteInfo w.heap.size (k * 4) 4 4 KB (ko + 4 * k) (n - 4 * k) (cap - 4 * k) 4 (M * 4) (flat (wdTo N g k)) (fun j => g (4 * k + j)) rfl rfl 87 HD.out.drew (by omega) (Nat.min_eq_right (by omega)).symm CC.out ?_
        have HD2 := Lib.hid (HD.out.drew.setRow .u8 (mk (M * 4) (put (flat (wdTo N g k)) (k * 4) 4 (fun j => g (4 * k + j)))))
        have HW2 := Lib.hid (below_setRow HW.out.drew (g := w.heap.size) (Nat.le_refl _) (cellsOf .u8 (mk (M * 4) (put (flat (wdTo N g k)) (k * 4) 4 (fun j => g (4 * k + j))))))
        clear HD HW CC
        go_wp2
        go_roundw
        case rel => exact ⟨k + 1, by omega, by go_num, by rw [← flat_steps, HV.out]; exact HD2.out, HW2.out⟩
        case measure => simp [intOf]; omega
      · have t2 : decide ((k : Int) < (N : Int)) = false := by simp; omega
        obtain ⟨a, hna⟩ : ∃ a, a = k - N := ⟨_, rfl⟩
        obtain ⟨b, hnb⟩ : ∃ b, b = k - 1 := ⟨_, rfl⟩
        have s1 : IntKind.i64.wrap ((k : Int) - N) = (a : Int) := by rw [IntWalk.i64_in _ (by omega)]; omega
        have s2 : IntKind.i64.wrap ((k : Int) - 1) = (b : Int) := by rw [IntWalk.i64_in _ (by omega)]; omega
        have haM : a < M := by omega
        have hbM : b < M := by omega
        have ka := wdTo_word hgw k a
        have kb := wdTo_word hgw k b
        have kt := tnK_word N k kb
        have CA := Lib.hid (fun (w' : World) (h : Below wr.heap.size wr w') => flat_cells (hd.below h hd.lt) haM)
        have CB := Lib.hid (fun (w' : World) (h : Below wr.heap.size wr w') => flat_cells (hd.below h hd.lt) hbM)
        have DC := Lib.hid (fun (w' : World) (h : Below wr.heap.size wr w') => hd.below h hd.lt)
        have LC := Lib.hid (fun (w' : World) (h : Below wr.heap.size wr w') => hw.trans (h.mono hw.size))
        have HV := Lib.hid (show newW N g (wdTo N g k) k = xorK (wdTo N g k a) (tnK N k (wdTo N g k b)) by rw [newW_more g (wdTo N g k) hkN, hna, hnb])
        clear hd hw HD HW hna hnb
        go_wp2
        refine wp_region_class_tail 18 (fun w' => Below wr.heap.size wr w') (by kernel_rfl) (by kernel_rfl) ((Below.refl _ _).drew) ?_
        simp only [List.take_succ_cons, List.take_zero, List.drop_succ_cons, List.drop_zero]
        iterate 18 (first
          | go_big_quiet_skip
          | (go_big_quiet_want
             first
               | (go_big_quiet_op; go_big_quiet_on)
               | ((first
                   | (refine quiet_int_sub _ _ rfl (k : Int) (N : Int) (a : Int) rfl rfl s1 ?_)
                   | (refine quiet_int_sub _ _ rfl (k : Int) 1 (b : Int) rfl rfl s2 ?_)
                   | (refine quiet_elem 86 87 4 _ _ rfl wordsUnder wordInfo1 w.heap.size 0 M M a rfl rfl haM ?_)
                   | (refine quiet_elem 86 87 4 _ _ rfl wordsUnder wordInfo1 w.heap.size 0 M M b rfl rfl hbM ?_)
                   | (refine quiet_elem 86 87 4 _ _ rfl wordsUnder wordInfo1 w.heap.size 0 M M k rfl rfl hlt ?_)
                   | (refine quiet_load_part 87 _ rfl w.heap.size (a * 4) 4 (wdTo N g k a) rfl _ CA.out wordUnder rfl wordInfo1 ?_)
                   | (refine quiet_load_part 87 _ rfl w.heap.size (b * 4) 4 (wdTo N g k b) rfl _ CB.out wordUnder rfl wordInfo1 ?_)
                   | (refine quiet_turn _ _ _ _ _ rfl rfl (wdTo N g k b) rfl (k : Int) (N : Int) rfl rfl (tnK N k (wdTo N g k b)) (class_of (turn_any _ kb k N hN0 (by omega) (by omega))) ?_)
                   | (refine quiet_words _ _ _ _ rfl 55 rfl (wdTo N g k a) rfl (tnK N k (wdTo N g k b)) rfl _ call_add (class_of (add_any _ _ ka kt)) ?_)); go_simp; go_big_quiet_on)))
        refine wpQuiet_nil ?_
        intro w1 hw1
        have B1 := Lib.hid (DC.out _ hw1)
        have L1 := Lib.hid (LC.out _ hw1)
        clear hw1 CA CB DC LC
        refine wpList_store_part rfl 87 _ _ rfl rfl w.heap.size (k * 4) 4 (M * 4) (flat (wdTo N g k)) (xorK (wdTo N g k a) (tnK N k (wdTo N g k b))) rfl rfl 87 B1.out (by omega) wordInfo1 ?_
        have HD2 := Lib.hid (B1.out.setRow .u8 (mk (M * 4) (put (flat (wdTo N g k)) (k * 4) 4 (xorK (wdTo N g k a) (tnK N k (wdTo N g k b))))))
        have HW2 := Lib.hid (below_setRow L1.out (g := w.heap.size) (Nat.le_refl _) (cellsOf .u8 (mk (M * 4) (put (flat (wdTo N g k)) (k * 4) 4 (xorK (wdTo N g k a) (tnK N k (wdTo N g k b)))))))
        clear B1 L1
        go_wp2
        go_roundw
        case rel => exact ⟨k + 1, by omega, by go_num, by rw [← flat_steps, HV.out]; exact HD2.out, HW2.out⟩
        case measure => simp [intOf]; omega
    · obtain rfl : k = M := by omega
      have t1 : decide ((k : Int) < (k : Int)) = false := by simp
      clear hd hw
      go_wp2
      go_ret
      exact ⟨rfl, HD.out, HW.out⟩
end Go.Proofs.Ytghdeedglekphaa

/- The contract of package cipher's Rounds: a key of 16 or 32 bytes has its round keys, in memory of its own; every other key none, and ErrKey; and nothing is written that was there. Condition: the key's bytes are bytes. -/
namespace Go.Proofs.Ytghdeedglekphaa
open Go.ChangeShapes Go.WideShapes Go.ChangeAt Go.RowKit

theorem wpList_make_keys {ops : Array Oper} {rest : List Oper} {o : Oper} {a : Act} {w : World} {Q : Exit → Act → World → Prop} (hgd : o.guard = none) (x y : Operand) (ho : o.op = .makeSlice 61 x y) (M : Nat) (hM : M ≤ 1000) (hx : a.eval x = .int .i64 M) (hy : a.eval y = .int .i64 M)
    (h : wpList Try.prog ops Q rest (a.put o.dst (.slice (some ⟨w.heap.size, 0, none⟩) M M)) (w.alloc (.cells (cellsOf .u8 (mk (M * 16) zeroK)) 65))) : wpList Try.prog ops Q (o :: rest) a w :=
  wpList_plain hgd fun _ hK => by
    have hi := keyInfo
    have hz : (Try.prog.info? 65).bind (·.zero) = some (.agg (cellsOf .u8 (mk 16 zeroK))) := by kernel_rfl
    have hb : (Try.prog.info? 65).map (·.bytes) = some 16 := by kernel_rfl
    cases hq : Try.prog.info? 65 with
    | none => rw [hq] at hi; simp at hi
    | some i =>
      rw [hq] at hi hz hb
      have hsz : i.size = 16 := by simpa using hi
      have hzz : i.zero = some (.agg (cellsOf .u8 (mk 16 zeroK))) := by simpa using hz
      have hby : i.bytes = 16 := by simpa using hb
      have e := run_make (P := Try.prog) w 61 65 i _ keysUnder hq hzz .i64 .i64 M M (by omega) (by omega) (by rw [hby]; omega) (by omega)
      have hc : (Value.agg (cellsOf .u8 (mk 16 zeroK))).cells = cellsOf .u8 (mk 16 zeroK) := rfl
      rw [hsz, Int.toNat_natCast, made_zero hc (by omega)] at e
      unfold Oper.wp execOp
      simp only [ho]
      simp [hx, hy, e]
      exact hK _ _ h
/-- The first 4 k bytes of a row, noughts behind. -/
def rdTo (F : Nat → Nat) (k : Nat) : Nat → Nat := fun p => if p < 4 * k then F p else 0
theorem rdTo_zero (M : Nat) (F : Nat → Nat) : mk M (rdTo F 0) = mk M zeroK := mk_ext fun p _ => by unfold rdTo zeroK; rw [if_neg (by omega)]
theorem rdTo_step (M : Nat) (W : Nat → Nat → Nat) (k : Nat) : mk M (put (rdTo (flat W) k) (4 * k) 4 (W k)) = mk M (rdTo (flat W) (k + 1)) := mk_ext fun p _ => by
  unfold put rdTo
  by_cases h : 4 * k ≤ p ∧ p < 4 * k + 4
  · rw [if_pos h, if_pos (by omega)]
    have := flat_word W k (p - 4 * k) (by omega)
    rw [show 4 * k + (p - 4 * k) = p by omega] at this
    exact this.symm
  · rw [if_neg h]
    by_cases l : p < 4 * k
    · rw [if_pos l, if_pos (by omega)]
    · rw [if_neg l, if_neg (by omega)]
theorem rdTo_all {M k : Nat} (F : Nat → Nat) (h : M = 4 * k) : mk M (rdTo F k) = mk M F := mk_ext fun p hp => by unfold rdTo; rw [if_pos (by omega)]
theorem rdTo_steps {M k o : Nat} (W : Nat → Nat → Nat) (ho : o = 4 * k) : mk M (put (rdTo (flat W) k) o 4 (W k)) = mk M (rdTo (flat W) (k + 1)) := by subst ho; exact rdTo_step M W k
theorem keysAt_row {w : World} {B T : Nat} {t : TypeId} {F : Nat → Nat} (h : IntBlk w B .u8 t (mk (T * 16) F)) : KeysAt w (some ⟨B, 0, none⟩) T (fun i j => F (i * 16 + j)) := .inr ⟨B, 0, rfl, h.lt, fun i hi j hj => by
  have := h.cells (o := i * 16) (n := 16) (by omega) j hj
  rw [Nat.zero_add]; exact this⟩

set_option maxHeartbeats 1000000 in
theorem Rounds_bad (p : Option Addr) (n cap : Nat) (h16 : n ≠ 16) (h32 : n ≠ 32) (w : World) :
    Calls Try.prog 31 #[.slice p n cap] w fun e w' => e = .returned (.tuple #[.slice none 0 0, .iface 33 (.int .i64 3)]) ∧ w = w' := by
  have t1 : ((n : Int) != 16) = true := by simp; omega
  have t2 : ((n : Int) != 32) = true := by simp; omega
  go_enter Try.func31, Try.ntmps31
  go_wp2
  go_ret2
  exact ⟨rfl, rfl⟩
attribute [local irreducible] wdTo flat rdTo

set_option maxRecDepth 100000 in
set_option maxHeartbeats 4000000 in
theorem Rounds_ok (p : Option Addr) (n cap N : Nat) (g : Nat → Nat) (hn : n = 4 * N) (hN : N = 4 ∨ N = 8) (hcap : n ≤ cap) (hg : ∀ i, i < n → g i < 256) (w : World) (hp : BytesAt w p n g) :
    Calls Try.prog 31 #[.slice p n cap] w fun e w' => ∃ D, e = .returned (.tuple #[.slice (some ⟨D, 0, none⟩) (N + 7) (N + 7), .nilIface]) ∧ KeysAt w' (some ⟨D, 0, none⟩) (N + 7) (rkS N g) ∧ Below w.heap.size w w' := by
  have hrk : (fun i j => flat (wdTo N g (4 * N + 28)) (i * 16 + j)) = rkS N g := rfl
  obtain ⟨M, hM⟩ : ∃ M, M = 4 * N + 28 := ⟨_, rfl⟩
  obtain ⟨T, hT⟩ : ∃ T, T = N + 7 := ⟨_, rfl⟩
  rw [← hM] at hrk
  rw [← hT]
  have qT : (M : Int) / 4 = (T : Int) := by omega
  have hT1 : T ≤ 1000 := by omega
  have HN := Lib.hid (show M = 4 * T by omega)
  have H5 := Lib.hid (show M < 1000 by omega)
  have SC := Lib.hid (schedule_any p n cap N M g hn hN hM hcap hg w hp)
  have t0 : n = 16 ∨ n = 32 := by omega
  have HR := Lib.hid hrk
  clear hrk hM hT hn
  go_enter Try.func31, Try.ntmps31
  rcases t0 with rfl | rfl
  all_goals
    go_wp2_with fail
    refine SC.out.mono ?_
    rintro e w1 ⟨rfl, hd, hb⟩
    have hs1 : w.heap.size < w1.heap.size := hd.lt
    go_wp2_with (first
      | (refine wpList_make_keys rfl _ _ rfl T hT1 rfl rfl ?_)
      | fail)
    have h0 := hd.alloc (.cells (cellsOf .u8 (mk (T * 16) zeroK)) 65)
    have h1 := IntBlk.new w1 .u8 65 (mk (T * 16) zeroK)
    have h2 := hb.alloc (show w.heap.size ≤ w1.heap.size by omega) (.cells (cellsOf .u8 (mk (T * 16) zeroK)) 65)
    have H0 := Lib.hid h0
    have H1 := Lib.hid h1
    have H2 := Lib.hid h2
    clear h0 h1 h2 hd hb SC qT hp
    go_loopw [25] (fun v25 wr => ∃ i : Nat, i ≤ M ∧ v25 = .int .i64 i ∧ IntBlk wr w.heap.size .u8 87 (mk (M * 4) (flat (wdTo N g M))) ∧ IntBlk wr w1.heap.size .u8 65 (mk (T * 16) (rdTo (flat (wdTo N g M)) i)) ∧ Below w.heap.size w wr) (fun v25 _ => M - (intOf v25).toNat)
    case' atStart => exact ⟨0, by omega, rfl, H0.out, by rw [rdTo_zero]; exact H1.out, H2.out⟩
    case' round =>
      clear H0 H1 H2
      obtain ⟨i, hi, rfl, hd, hr, hw⟩ := hrel
      by_cases hlt : i < M
      · have t1 : decide ((i : Int) < (M : Int)) = true := by simp; omega
        have hs2 : w1.heap.size < wr.heap.size := hr.lt
        have CW := Lib.hid (flat_cells hd hlt)
        have D1 := Lib.hid ((hd.alloc (.cells (cellsOf .u8 (mk 4 zeroK)) 87)).otherRow (C := wr.heap.size) (by omega) (cellsOf .u8 (mk 4 (wdTo N g M i))))
        have R1 := Lib.hid ((hr.alloc (.cells (cellsOf .u8 (mk 4 zeroK)) 87)).otherRow (C := wr.heap.size) (by omega) (cellsOf .u8 (mk 4 (wdTo N g M i))))
        have N1 := Lib.hid (IntBlk.new wr .u8 87 (mk 4 zeroK))
        have W1 := Lib.hid ((IntBlk.new wr .u8 87 (mk 4 zeroK)).setRow .u8 (mk 4 (wdTo N g M i)))
        have L1 := Lib.hid (below_setRow (hw.alloc (by omega) (.cells (cellsOf .u8 (mk 4 zeroK)) 87)) (g := wr.heap.size) (by omega) (cellsOf .u8 (mk 4 (wdTo N g M i))))
        clear hd hr hw
        have hMT := HN.out
        have e1 : (i : Int) / 4 < T := by omega
        have e2 : (0 : Int) ≤ (i : Int) / 4 := by omega
        have e3 : IntKind.i64.wrap ((i : Int) / 4) = (i : Int) / 4 := IntWalk.i64_in _ (by omega)
        have e4 : (i : Int).tmod 4 = (i : Int) % 4 := IntWalk.rem_in _ _ (by omega)
        have e5 : IntKind.i64.wrap ((i : Int) % 4 * 4) = (i : Int) % 4 * 4 := IntWalk.i64_in _ (by omega)
        have e6 : (0 : Int) ≤ (i : Int) % 4 * 4 := by omega
        have e7 : (i : Int) % 4 * 4 ≤ 16 := by omega
        obtain ⟨s, hs⟩ : ∃ s, s = ((i : Int) % 4 * 4).toNat := ⟨_, rfl⟩
        have e8 : ((i : Int) % 4 * 4).toNat = s := hs.symm
        have e9 : ((i : Int) / 4).toNat * 16 + s = 4 * i := by omega
        have e10 : ¬ (16 = s) := by omega
        have e11 : 4 ≤ 16 - s := by omega
        have e12 : 4 * i + 4 ≤ T * 16 := by omega
        clear hMT hs
        go_wp2_with (first
          | (refine wpList_load_part rfl 87 _ rfl w.heap.size (i * 4) 4 (wdTo N g M i) rfl _ CW.out wordUnder rfl wordInfo1 ?_)
          | (refine store_row_on rfl 87 _ _ rfl rfl wr.heap.size (cellsOf .u8 (mk 4 (wdTo N g M i))) rfl rfl 87 (cellsOf .u8 (mk 4 zeroK)) N1.out (wordSize _) (by rw [cellsOf_size, cellsOf_size, mk_len, mk_len]) (cellsOf_one _ _) ?_)
          | fail)
        change Code.wp _ _ _ _ ((wr.alloc (.cells (cellsOf .u8 (mk 4 zeroK)) 87)).setRow wr.heap.size (cellsOf .u8 (mk 4 (wdTo N g M i))))
        have D2 := D1.out
        have R2 := R1.out
        have W2 := W1.out
        have L2 := L1.out
        clear D1 R1 W1 L1 N1 CW
        generalize (wr.alloc (.cells (cellsOf .u8 (mk 4 zeroK)) 87)).setRow wr.heap.size (cellsOf .u8 (mk 4 (wdTo N g M i))) = w2 at *
        have D1 := Lib.hid D2.drew
        have R1 := Lib.hid R2.drew
        have W1 := Lib.hid W2.drew
        have L1 := Lib.hid L2.drew
        clear D2 R2 W2 L2
        refine wp_region_still_tail 9 (by kernel_rfl) (by kernel_rfl) ?_
        simp only [List.take_succ_cons, List.take_zero, List.drop_succ_cons, List.drop_zero]
        change wpStill _ _ w2.drew (fun a' => wpList _ _ _ _ a' w2.drew) _ _
        iterate 9 still_step
        refine wpStill_nil ?_
        have CD : Cells w2.drew wr.heap.size 0 4 (wdTo N g M i) := by
          have := W1.out.cells (o := 0) (n := 4) (by omega)
          simpa using this
        refine wpList_copy_part rfl _ _ _ _ rfl 5 bytesUnder byteInfo w1.heap.size (4 * i) (16 - s) (16 - s) wr.heap.size 0 4 4 4 (T * 16) (rdTo (flat (wdTo N g M)) i) (wdTo N g M i) rfl rfl 65 R1.out e12 (Nat.min_eq_left e11).symm CD ?_
        have D3 := Lib.hid (D1.out.otherRow (C := w1.heap.size) (by omega) (cellsOf .u8 (mk (T * 16) (put (rdTo (flat (wdTo N g M)) i) (4 * i) 4 (wdTo N g M i)))))
        have R3 := Lib.hid (R1.out.setRow .u8 (mk (T * 16) (put (rdTo (flat (wdTo N g M)) i) (4 * i) 4 (wdTo N g M i))))
        have L3 := Lib.hid (below_setRow L1.out (g := w1.heap.size) (by omega) (cellsOf .u8 (mk (T * 16) (put (rdTo (flat (wdTo N g M)) i) (4 * i) 4 (wdTo N g M i)))))
        clear D1 R1 W1 L1 CD
        go_wp2
        go_roundw
        case' rel => exact ⟨i + 1, by omega, by go_num, D3.out, by rw [← rdTo_step]; exact R3.out, L3.out⟩
        case' measure => simp [intOf]; omega
      · obtain rfl : i = M := by omega
        have t1 : decide ((i : Int) < (i : Int)) = false := by simp
        have HD := Lib.hid hr
        have HW := Lib.hid hw
        clear hd hr hw
        go_wp2
        go_ret2
        refine ⟨w1.heap.size, rfl, ?_, HW.out⟩
        have h := HD.out
        rw [rdTo_all _ (show T * 16 = 4 * i by have := HN.out; omega)] at h
        have k := keysAt_row h
        rw [HR.out] at k; exact k
end Go.Proofs.Ytghdeedglekphaa

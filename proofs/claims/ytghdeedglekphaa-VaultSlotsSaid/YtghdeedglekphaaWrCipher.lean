/- WrCipher: merged by merge.py out of QuietC FieldC SubC SubK QuietB XorC Powers LoopS ConstC RotC ShiftC MixC ColC AddC MixNum EncNum EncC DecC parts of SealT, TwNum. Conditions: as each part says. -/
import Derived.Test.YtghdeedglekphaaTwBase
import Derived.Test.YtghdeedglekphaaRows
import Derived.WalkKit
import Derived.ProofKit
import Derived.OpenShut
import Derived.Lib.Hide
import Derived.Outline
import Derived.StillTailTactics
import Derived.RangeFuncNested
import Derived.RangeFuncBound
import Derived.RangeFuncCalls
import Derived.RangeFuncLeaves
import Derived.Shelf.Abstract
import Derived.Shelf.RegionOpen
import Derived.OwnWalkIn
import Derived.TacticsInMore
import Derived.LoopNIn
import Derived.LoopIn
import Derived.Deep.LoopGhost
import Derived.Great.BuildSlice
import Derived.Deep.Slices
import Derived.Laws.MakeOwn
import Derived.Laws.ResultCell
/- Laws for regions whose order Go leaves open: an array built of known parts, a pick that is true or false, arrays compared either way. No condition. -/
namespace Go.Proofs.Ytghdeedglekphaa
open Go.ChangeShapes Go.WideShapes Go.ChangeAt Go.RowKit

/-- An array of bytes, or a key, built of known parts. -/
theorem quiet_built {o : Oper} {a : Act} {C : World → Prop} {K : Act → Prop} (ty : TypeId) (xs : List (Nat × Operand)) (ho : o.op = .build ty ⟨xs⟩) (ys : List (Nat × Value)) (hx : xs.map (fun p => (p.1, a.eval p.2)) = ys) (n : Nat) (f : Nat → Nat)
    (hf : Try.prog.built ty ys = some (cellsOf .u8 (mk n f))) (hk : K (a.put o.dst (.agg (cellsOf .u8 (mk n f))))) : o.quiet Try.prog a C K := by
  refine quiet_value _ (fun w _ => ?_) hk
  have e := run_build w ty (xs.map (fun p => (p.1, a.eval p.2))).toArray (cellsOf .u8 (mk n f)) (by rw [hx]; exact hf)
  unfold execOp
  simp only [ho]
  rw [Sem.run_bind]
  simp only [List.map_toArray] at *
  rw [e]; rfl
theorem quiet_pick_true {o : Oper} {a : Act} {C : World → Prop} {K : Act → Prop} (c x y : Operand) (ho : o.op = .pick c x y) (hc : a.eval c = .bool false) (b : Bool) (hy : a.eval y = .bool b) (hk : K (a.put o.dst (.bool b))) : o.quiet Try.prog a C K := by
  refine quiet_value _ (fun w _ => ?_) hk
  unfold execOp
  simp only [ho, hc, hy]
  simp [go_sem]
theorem quiet_neq {o : Oper} {a : Act} {C : World → Prop} {K : Act → Prop} (x y : Operand) (ho : o.op = .binOp .neq 65 x y 65) (f g : Nat → Nat)
    (hx : a.eval x = .agg (cellsOf .u8 (mk 16 f))) (hy : a.eval y = .agg (cellsOf .u8 (mk 16 g))) (h : mk 16 f = mk 16 g) (hk : K (a.put o.dst (.bool false))) : o.quiet Try.prog a C K := by
  refine quiet_value (.bool false) (fun w _ => ?_) hk
  have e := key_eq g g w
  unfold execOp
  simp only [ho, hx, hy]
  simp [go_sem, e, h]
theorem quiet_word_neq {o : Oper} {a : Act} {C : World → Prop} {K : Act → Prop} (x y : Operand) (ho : o.op = .binOp .neq 87 x y 87) (f g : Nat → Nat)
    (hx : a.eval x = .agg (cellsOf .u8 (mk 4 f))) (hy : a.eval y = .agg (cellsOf .u8 (mk 4 g))) (h : mk 4 f = mk 4 g) (hk : K (a.put o.dst (.bool false))) : o.quiet Try.prog a C K := by
  refine quiet_value (.bool false) (fun w _ => ?_) hk
  have e := word_eq g g w
  unfold execOp
  simp only [ho, hx, hy]
  simp [go_sem, e, h]
/-- A call of a function of two words. -/
theorem quiet_words {o : Oper} {a : Act} {C : World → Prop} {K : Act → Prop} (x y z : Operand) (ts : Array TypeId) (ho : o.op = .call { callee := .value x, args := #[y, z], argTypes := ts }) (g : FuncId) (hx : a.eval x = .func (.func g) #[] #[])
    (f : Nat → Nat) (hy : a.eval y = .agg (cellsOf .u8 (mk 4 f))) (f' : Nat → Nat) (hz : a.eval z = .agg (cellsOf .u8 (mk 4 f'))) (r : Nat → Nat) (hf : ∀ (args : Array Value) (w : World), (callFunc g args).run Try.prog w = .ok (.enter g args) w)
    (hc : ∀ w, C w → Calls Try.prog g #[.agg (cellsOf .u8 (mk 4 f)), .agg (cellsOf .u8 (mk 4 f'))] w fun e w' => e = .returned (.agg (cellsOf .u8 (mk 4 r))) ∧ C w') (hk : K (a.put o.dst (.agg (cellsOf .u8 (mk 4 r))))) : o.quiet Try.prog a C K :=
  quiet_calls x #[y, z] ts ho g _ _ hx (by simp only [List.map_toArray, List.map_cons, List.map_nil, hy, hz]) (fun w => hf _ w) hc hk
end Go.Proofs.Ytghdeedglekphaa

/- The contracts of package field's Twice, Mul and Inv: each answers the byte that Num's function says and leaves the world as it is. Conditions: the arguments are bytes. -/
namespace Go.Proofs.Ytghdeedglekphaa
open Go.ChangeShapes Go.WideShapes Go.ChangeAt Go.RowKit

theorem Twice_any (b : Int) (h0 : 0 ≤ b) (h1 : b ≤ 255) (w : World) :
    Calls Try.prog 66 #[.int .u8 b] w fun e w' => e = .returned (.int .u8 (twI b)) ∧ w = w' := by
  by_cases h : b < 128
  · have ht : (bits .and .u8 b 128 != 0) = false := by rw [top_low h0 h]; rfl
    have e := Lib.hid (twI_low h0 h)
    go_enter Try.func66, Try.ntmps66
    go_wp2
    go_ret
    rw [e.out]; exact ⟨rfl, rfl⟩
  · have ht : (bits .and .u8 b 128 != 0) = true := by rw [top_high (by omega) h1]; rfl
    have e := Lib.hid (twI_high (Int.not_lt.mp h) h1)
    go_enter Try.func66, Try.ntmps66
    go_wp2
    go_ret
    rw [e.out]; exact ⟨rfl, rfl⟩

/-- The loop's steps on Go's integers: what is left to come of the product. -/
def restI (n : Nat) (a b s : Int) : Int := (mulS n a.toNat b.toNat s.toNat : Nat)
theorem restI_odd {n : Nat} {a b s : Int} (h0 : 0 ≤ b) (ho : b % 2 = 1) : restI (n + 1) a b s = restI n (twI a) (b / 2) (xorI s a) := by
  unfold restI twI xorI; rw [Int.toNat_natCast, Int.toNat_natCast]
  show ((mulS n (tw a.toNat) (b.toNat / 2) (if b.toNat % 2 = 1 then s.toNat ^^^ a.toNat else s.toNat) : Nat) : Int) = _
  rw [if_pos (by omega), show (b / 2).toNat = b.toNat / 2 by omega]
theorem restI_even {n : Nat} {a b s : Int} (h0 : 0 ≤ b) (ho : b % 2 = 0) : restI (n + 1) a b s = restI n (twI a) (b / 2) s := by
  unfold restI twI; rw [Int.toNat_natCast]
  show ((mulS n (tw a.toNat) (b.toNat / 2) (if b.toNat % 2 = 1 then s.toNat ^^^ a.toNat else s.toNat) : Nat) : Int) = _
  rw [if_neg (by omega), show (b / 2).toNat = b.toNat / 2 by omega]
theorem restI_zero {n : Nat} {a s : Int} (h : 0 ≤ s) : restI n a 0 s = s := by
  unfold restI; rw [show (0 : Int).toNat = 0 from rfl, mulS_zero]; omega
theorem restI_all (a b : Int) : restI 8 a b 0 = mulI a b := rfl

set_option maxHeartbeats 400000 in
theorem Mul_any (a b : Int) (h0 : 0 ≤ a) (h1 : a ≤ 255) (g0 : 0 ≤ b) (g1 : b ≤ 255) (w : World) :
    Calls Try.prog 59 #[.int .u8 a, .int .u8 b] w fun e w' => e = .returned (.int .u8 (mulI a b)) ∧ w = w' := by
  go_enter Try.func59, Try.ntmps59
  go_wp2
  go_loop [0, 1, 5] (fun va vb vs => ∃ (n : Nat) (x y s : Int), 0 ≤ x ∧ x ≤ 255 ∧ 0 ≤ y ∧ y ≤ 255 ∧ y < 2 ^ n ∧ 0 ≤ s ∧ s ≤ 255 ∧ va = .int .u8 x ∧ vb = .int .u8 y ∧ vs = .int .u8 s ∧ restI n x y s = mulI a b) (fun _ vb _ => (intOf vb).toNat)
  case atStart => exact ⟨8, a, b, 0, h0, h1, g0, g1, by omega, by omega, by omega, rfl, rfl, rfl, restI_all a b⟩
  case round =>
    obtain ⟨n, x, y, s, x0, x1, y0, y1, yn, s0, s1, rfl, rfl, rfl, hr⟩ := hrel
    have HR := Lib.hid hr; clear hr
    by_cases hz : y = 0
    · subst hz
      go_wp2
      go_ret
      rw [← HR.out, restI_zero s0]; exact ⟨rfl, rfl⟩
    · have hnz : (y != 0) = true := by simpa using hz
      obtain ⟨m, rfl⟩ : ∃ m, n = m + 1 := by
        cases n with
        | zero => exfalso; simp at yn; omega
        | succ m => exact ⟨m, rfl⟩
      have ym : y / 2 < 2 ^ m := by have := Int.pow_succ 2 m; omega
      have tb := twI_bd (b := x) x1
      by_cases ho : y % 2 = 1
      · have HN := Lib.hid (restI_odd (n := m) (a := x) (s := s) y0 ho)
        have hb : (bits .and .u8 y 1 != 0) = true := by rw [low_bit y0 y1, ho]; rfl
        have HX := Lib.hid (xorI_bits s0 s1 x0 x1)
        have sb := xorI_bd (a := s) (b := x) s1 x1
        clear ho yn
        go_wp2_with (go_at_call 66; refine (Twice_any _ (by omega) (by omega) _).mono ?_; rintro e w' ⟨rfl, rfl⟩)
        go_round
        case rel => exact ⟨m, twI x, y / 2, xorI s x, by omega, by omega, by omega, by omega, ym, by omega, by omega, rfl, rfl, by rw [HX.out], by rw [← HN.out]; exact HR.out⟩
        case measure => simp [intOf]; omega
      · have he : y % 2 = 0 := by omega
        have HN := Lib.hid (restI_even (n := m) (a := x) (s := s) y0 he)
        have hb : (bits .and .u8 y 1 != 0) = false := by rw [low_bit y0 y1, he]; rfl
        clear ho he yn
        go_wp2_with (go_at_call 66; refine (Twice_any _ (by omega) (by omega) _).mono ?_; rintro e w' ⟨rfl, rfl⟩)
        go_round
        case rel => exact ⟨m, twI x, y / 2, s, by omega, by omega, by omega, by omega, ym, by omega, by omega, rfl, rfl, rfl, by rw [← HN.out]; exact HR.out⟩
        case measure => simp [intOf]; omega

/-- What is left to come of the inverse. -/
def restV (n : Nat) (b p : Int) : Int := (invS n b.toNat p.toNat : Nat)
theorem restV_step (n : Nat) (b p : Int) : restV (n + 1) b p = restV n (mulI b b) (mulI p (mulI b b)) := by
  unfold restV mulI; rw [Int.toNat_natCast, Int.toNat_natCast]; rfl
theorem restV_end (b p : Int) (h : 0 ≤ p) : restV 0 b p = p := by unfold restV; show ((p.toNat : Nat) : Int) = p; omega
theorem restV_all (b : Int) : restV 7 b 1 = invI b := rfl

set_option maxHeartbeats 400000 in
theorem Inv_any (b : Int) (h0 : 0 ≤ b) (h1 : b ≤ 255) (w : World) :
    Calls Try.prog 58 #[.int .u8 b] w fun e w' => e = .returned (.int .u8 (invI b)) ∧ w = w' := by
  go_enter Try.func58, Try.ntmps58
  go_wp2
  go_loop [0, 3, 4] (fun vb vp vi => ∃ (k : Nat) (x p : Int), k ≤ 7 ∧ 0 ≤ x ∧ x ≤ 255 ∧ 0 ≤ p ∧ p ≤ 255 ∧ vb = .int .u8 x ∧ vp = .int .u8 p ∧ vi = .int .i64 k ∧ restV (7 - k) x p = invI b) (fun _ _ vi => 7 - (intOf vi).toNat)
  case atStart => exact ⟨0, b, 1, by omega, h0, h1, by omega, by omega, rfl, rfl, rfl, restV_all b⟩
  case round =>
    obtain ⟨k, x, p, hk, x0, x1, p0, p1, rfl, rfl, rfl, hr⟩ := hrel
    have HR := Lib.hid hr; clear hr
    by_cases hz : k < 7
    · have HN : Hid (restV (7 - k) x p = restV (7 - (k + 1)) (mulI x x) (mulI p (mulI x x))) := by
        have e : 7 - k = (7 - (k + 1)) + 1 := by omega
        unfold Hid; rw [e]; exact restV_step _ _ _
      have b1 := mulI_bd (a := x) (b := x) x1
      have b2 := mulI_bd (a := p) (b := mulI x x) p1
      go_wp2_with (go_at_call 59; refine (Mul_any _ _ (by omega) (by omega) (by omega) (by omega) _).mono ?_; rintro e w' ⟨rfl, rfl⟩)
      go_round
      case rel => exact ⟨k + 1, mulI x x, mulI p (mulI x x), by omega, by omega, by omega, by omega, by omega, rfl, rfl, by go_num, by rw [← HN.out]; exact HR.out⟩
      case measure => simp [intOf]; omega
    · obtain rfl : k = 7 := by omega
      go_wp2
      go_ret
      rw [← HR.out, show 7 - 7 = 0 from rfl, restV_end _ _ p0]; exact ⟨rfl, rfl⟩
end Go.Proofs.Ytghdeedglekphaa

/- The contracts of package sbox's functions of bytes: each answers the byte that SubNum's function says and leaves the world as it is. Conditions: the arguments are bytes. -/
namespace Go.Proofs.Ytghdeedglekphaa
open Go.ChangeShapes Go.WideShapes Go.ChangeAt Go.RowKit

set_option maxHeartbeats 400000 in
theorem Rot_any (b : Int) (k : Nat) (h0 : 0 ≤ b) (h1 : b ≤ 255) (k0 : 1 ≤ k) (k1 : k ≤ 6) (w : World) :
    Calls Try.prog 65 #[.int .u8 b, .int .i64 k] w fun e w' => e = .returned (.int .u8 (rotI b k)) ∧ w = w' := by
  have E := Lib.hid (fun x y hx hy => rotI_or (b := b) (k := k) h0 h1 (by omega) (x := x) (y := y) hx hy)
  have A1 : bits .and .u64 1 7 = 1 := by decide +kernel
  have A2 : bits .and .u64 2 7 = 2 := by decide +kernel
  have A3 : bits .and .u64 3 7 = 3 := by decide +kernel
  have A4 : bits .and .u64 4 7 = 4 := by decide +kernel
  have A5 : bits .and .u64 5 7 = 5 := by decide +kernel
  have A6 : bits .and .u64 6 7 = 6 := by decide +kernel
  rcases (show k = 1 ∨ k = 2 ∨ k = 3 ∨ k = 4 ∨ k = 5 ∨ k = 6 by omega) with rfl | rfl | rfl | rfl | rfl | rfl
  all_goals
    go_enter Try.func65, Try.ntmps65
    go_wp2
    go_ret
    refine ⟨?_, rfl⟩
    rw [← E.out _ _ rfl rfl]
    rfl

def sprTo (b : Int) : Nat → Int
  | 0 => b
  | k + 1 => xorI (sprTo b k) (rotI b (k + 1))
theorem sprTo_end (b : Int) : sprTo b 4 = sprI b := (sprI_step b).symm
theorem sprTo_bd {b : Int} (h0 : 0 ≤ b) (h1 : b ≤ 255) : ∀ k, k ≤ 4 → 0 ≤ sprTo b k ∧ sprTo b k ≤ 255
  | 0, _ => ⟨h0, h1⟩
  | k + 1, hk => xorI_bd (sprTo_bd h0 h1 k (by omega)).2 (rotI_bd h1 (by omega)).2

set_option maxHeartbeats 400000 in
theorem spread_any (b : Int) (h0 : 0 ≤ b) (h1 : b ≤ 255) (w : World) :
    Calls Try.prog 57 #[.int .u8 b] w fun e w' => e = .returned (.int .u8 (sprI b)) ∧ w = w' := by
  go_enter Try.func57, Try.ntmps57
  go_wp2
  go_loop [3, 4] (fun vs vn => ∃ (k n : Nat), k ≤ 4 ∧ n = k + 1 ∧ vs = .int .u8 (sprTo b k) ∧ vn = .int .i64 n) (fun _ vn => 5 - (intOf vn).toNat)
  case atStart => exact ⟨0, 1, by omega, rfl, rfl, rfl⟩
  case round =>
    obtain ⟨k, n, hk, hn, rfl, rfl⟩ := hrel
    by_cases hz : n ≤ 4
    · have sb := sprTo_bd h0 h1 k hk
      have rb := rotI_bd (b := b) (k := n) h1 (by omega)
      have HX : bits .xor .u8 (sprTo b k) (rotI b n) = xorI (sprTo b k) (rotI b n) := xorI_bits sb.1 sb.2 rb.1 rb.2
      have HN := Lib.hid hn; clear hn
      go_wp2_with (go_at_call 65; refine (Rot_any _ _ h0 h1 (by have := HN.out; omega) (by omega) _).mono ?_; rintro e w' ⟨rfl, rfl⟩)
      go_round
      case rel => exact ⟨k + 1, n + 1, by have := HN.out; omega, by rw [HN.out], by rw [HN.out]; rfl, by go_num⟩
      case measure => simp [intOf]; omega
    · obtain rfl : k = 4 := by omega
      obtain rfl : n = 5 := hn
      have hd : decide (((5 : Nat) : Int) ≤ 4) = false := rfl
      go_wp2
      go_ret
      rw [sprTo_end]; exact ⟨rfl, rfl⟩

/-- The same at an integer. -/
def rotZ (b k : Int) : Int := rotI b k.toNat
theorem rotZ_bd {b k : Int} (h1 : b ≤ 255) (h : k ≤ 6) : 0 ≤ rotZ b k ∧ rotZ b k ≤ 255 := rotI_bd h1 (by omega)
theorem Rot_at (b k : Int) (h0 : 0 ≤ b) (h1 : b ≤ 255) (k0 : 1 ≤ k) (k1 : k ≤ 6) (w : World) :
    Calls Try.prog 65 #[.int .u8 b, .int .i64 k] w fun e w' => e = .returned (.int .u8 (rotZ b k)) ∧ w = w' := by
  have := Rot_any b k.toNat h0 h1 (by omega) (by omega) w
  rw [Int.toNat_of_nonneg (by omega)] at this; exact this
theorem gatZ_step (b : Int) : gatI b = xorI (xorI (rotZ b 1) (rotZ b 3)) (rotZ b 6) := gatI_step b

set_option maxHeartbeats 400000 in
theorem gather_any (b : Int) (h0 : 0 ≤ b) (h1 : b ≤ 255) (w : World) :
    Calls Try.prog 61 #[.int .u8 b] w fun e w' => e = .returned (.int .u8 (gatI b)) ∧ w = w' := by
  have r1 := rotZ_bd (b := b) (k := 1) h1 (by omega)
  have r3 := rotZ_bd (b := b) (k := 3) h1 (by omega)
  have r6 := rotZ_bd (b := b) (k := 6) h1 (by omega)
  have x1 : bits .xor .u8 (rotZ b 1) (rotZ b 3) = xorI (rotZ b 1) (rotZ b 3) := xorI_bits r1.1 r1.2 r3.1 r3.2
  have b1 := xorI_bd (a := rotZ b 1) (b := rotZ b 3) r1.2 r3.2
  have x2 : bits .xor .u8 (xorI (rotZ b 1) (rotZ b 3)) (rotZ b 6) = xorI (xorI (rotZ b 1) (rotZ b 3)) (rotZ b 6) := xorI_bits b1.1 b1.2 r6.1 r6.2
  have E := Lib.hid (gatZ_step b)
  clear r1 r3 r6 b1
  go_enter Try.func61, Try.ntmps61
  go_wp2_with (go_at_call 65; refine (Rot_at _ _ h0 h1 (by omega) (by omega) _).mono ?_; rintro e w' ⟨rfl, rfl⟩)
  go_ret
  rw [E.out]; exact ⟨rfl, rfl⟩

theorem Sub_any (b : Int) (h0 : 0 ≤ b) (h1 : b ≤ 255) (w : World) :
    Calls Try.prog 48 #[.int .u8 b] w fun e w' => e = .returned (.int .u8 (subI b)) ∧ w = w' := by
  have bi := invI_bd (b := b) h1
  have bs := sprI_bd (b := invI b) bi.2
  have x1 : bits .xor .u8 (sprI (invI b)) 99 = xorI (sprI (invI b)) 99 := xorI_bits bs.1 bs.2 (by omega) (by omega)
  have E := Lib.hid (subI_step b)
  go_enter Try.func48, Try.ntmps48
  go_wp2_with (first
    | (go_at_call 58; refine (Inv_any _ h0 h1 _).mono ?_; rintro e w' ⟨rfl, rfl⟩)
    | (go_at_call 57; refine (spread_any _ bi.1 bi.2 _).mono ?_; rintro e w' ⟨rfl, rfl⟩))
  go_ret
  rw [E.out]; exact ⟨rfl, rfl⟩

theorem Back_any (b : Int) (h0 : 0 ≤ b) (h1 : b ≤ 255) (w : World) :
    Calls Try.prog 54 #[.int .u8 b] w fun e w' => e = .returned (.int .u8 (backI b)) ∧ w = w' := by
  have bx := xorI_bd (a := b) (b := 99) h1 (by omega)
  have bg := gatI_bd (b := xorI b 99) bx.2
  have x1 : bits .xor .u8 b 99 = xorI b 99 := xorI_bits h0 h1 (by omega) (by omega)
  have E := Lib.hid (backI_step b)
  go_enter Try.func54, Try.ntmps54
  go_wp2_with (first
    | (go_at_call 61; refine (gather_any _ bx.1 bx.2 _).mono ?_; rintro e w' ⟨rfl, rfl⟩)
    | (go_at_call 58; refine (Inv_any _ bg.1 bg.2 _).mono ?_; rintro e w' ⟨rfl, rfl⟩))
  go_ret
  rw [E.out]; exact ⟨rfl, rfl⟩
end Go.Proofs.Ytghdeedglekphaa

/- The contracts of package sbox's functions of words and blocks: each answers the array that the plain functions say, and writes nothing that was there. Condition: the arrays' bytes are bytes. -/
namespace Go.Proofs.Ytghdeedglekphaa
open Go.ChangeShapes Go.WideShapes Go.ChangeAt Go.RowKit

/-- The first k bytes are replaced. -/
def mapTo (g : Nat → Nat) (f : Nat → Nat) (k : Nat) : Nat → Nat := fun i => if i < k then g (f i) else f i
theorem mapTo_zero (g f : Nat → Nat) : mapTo g f 0 = f := by funext i; simp [mapTo]
theorem mapTo_end (n : Nat) (g f : Nat → Nat) : mk n (mapTo g f n) = mk n (fun i => g (f i)) := mk_ext fun i hi => by simp [mapTo, hi]
theorem mapTo_step (n : Nat) (g f : Nat → Nat) {k : Nat} {v : Int} (hv : v = (g (f k) : Nat)) : (mk n (mapTo g f k)).set k v = mk n (mapTo g f (k + 1)) :=
  mk_set_is hv fun j _ => by
    unfold mapTo
    by_cases h : j = k
    · subst h; simp
    · rw [if_neg h]; by_cases h2 : j < k
      · rw [if_pos h2, if_pos (by omega)]
      · rw [if_neg h2, if_neg (by omega)]
attribute [local irreducible] subN backN subI backI

set_option maxRecDepth 100000 in
set_option maxHeartbeats 1000000 in
theorem SubAll_any (f : Nat → Nat) (hf : ∀ i, i < 16 → f i < 256) (w : World) :
    Calls Try.prog 35 #[.agg (cellsOf .u8 (mk 16 f))] w fun e w' => e = .returned (.agg (cellsOf .u8 (mk 16 (fun i => subN (f i))))) ∧ Below w.heap.size w w' := by
  go_enter Try.func35, Try.ntmps35
  go_wp2_with (refine wpList_load_row rfl 65 _ rfl w.heap.size rfl 65 (cellsOf .u8 (mk 16 f)) (0, 0) _ ((IntBlk.new w .u8 65 (mk 16 f)).alloc _) keyUnder rfl (keySize f) ?_)
  go_loopw [6] (fun v6 wr => ∃ k : Nat, k ≤ 16 ∧ v6 = .int .i64 k ∧ IntBlk wr w.heap.size .u8 65 (mk 16 (mapTo subN f k)) ∧ IntBlk wr (w.heap.size + 1) .u8 65 (mk 16 zeroK) ∧ Below w.heap.size w wr) (fun v6 _ => 16 - (intOf v6).toNat)
  case atStart => exact ⟨0, by omega, rfl, by rw [mapTo_zero]; exact (IntBlk.new w .u8 65 (mk 16 f)).alloc _, blk_two w .u8 65 (mk 16 zeroK) _, below_two w _ _⟩
  case round =>
    obtain ⟨k, hk, rfl, hz, hd, hb⟩ := hrel
    have HZ := Lib.hid hz
    have HD := Lib.hid hd
    have HB := Lib.hid hb
    by_cases hlt : k < 16
    · have hx := hf k hlt
      have HV := Lib.hid (mapTo_step 16 subN f (k := k) (v := subI (f k)) (subI_nat (f k)))
      have ci := hz.cell (i := k) (by rw [mk_len]; exact hlt)
      have cf := hz.free k
      have ki := key_index f hlt
      clear hz hd hb
      go_wp2_with (go_at_call 48; refine (Sub_any _ (by omega) (by omega) _).mono ?_; rintro e w' ⟨rfl, rfl⟩)
      go_roundw
      case rel => exact ⟨k + 1, by omega, by go_num, by rw [← HV.out]; exact HZ.out.set k _, HD.out.other (by simp) _, HB.out.setCell (by simp) _⟩
      case measure => simp [intOf]; omega
    · obtain rfl : k = 16 := by omega
      have hd1 : decide (((16 : Nat) : Int) < 16) = false := rfl
      clear hz hd hb
      go_wp2_with (first
        | (refine wpList_load_row rfl 65 _ rfl w.heap.size rfl 65 (cellsOf .u8 (mk 16 (fun i => subN (f i)))) (0, 0) _ (by rw [← mapTo_end]; exact HZ.out) keyUnder rfl (keySize _) ?_)
        | (refine wpList_store_row rfl 65 _ _ rfl (w.heap.size + 1) _ rfl rfl 65 (cellsOf .u8 (mk 16 zeroK)) HD.out (keySize _) (by rw [cellsOf_size, cellsOf_size, mk_len, mk_len]) (cellsOf_one _ _) ?_))
      refine bodyPost_ret (results_cell_row rfl _ _ (w.heap.size + 1) 65 (cellsOf .u8 (mk 16 (fun i => subN (f i)))) (0, 0) _ rfl (HD.out.setRow .u8 (mk 16 (fun i => subN (f i)))) keyUnder rfl (keySize _)) rfl ⟨rfl, below_setRow HB.out (by omega) _⟩

set_option maxRecDepth 100000 in
set_option maxHeartbeats 1000000 in
theorem BackAll_any (f : Nat → Nat) (hf : ∀ i, i < 16 → f i < 256) (w : World) :
    Calls Try.prog 44 #[.agg (cellsOf .u8 (mk 16 f))] w fun e w' => e = .returned (.agg (cellsOf .u8 (mk 16 (fun i => backN (f i))))) ∧ Below w.heap.size w w' := by
  go_enter Try.func44, Try.ntmps44
  go_wp2_with (refine wpList_load_row rfl 65 _ rfl w.heap.size rfl 65 (cellsOf .u8 (mk 16 f)) (0, 0) _ ((IntBlk.new w .u8 65 (mk 16 f)).alloc _) keyUnder rfl (keySize f) ?_)
  go_loopw [6] (fun v6 wr => ∃ k : Nat, k ≤ 16 ∧ v6 = .int .i64 k ∧ IntBlk wr w.heap.size .u8 65 (mk 16 (mapTo backN f k)) ∧ IntBlk wr (w.heap.size + 1) .u8 65 (mk 16 zeroK) ∧ Below w.heap.size w wr) (fun v6 _ => 16 - (intOf v6).toNat)
  case atStart => exact ⟨0, by omega, rfl, by rw [mapTo_zero]; exact (IntBlk.new w .u8 65 (mk 16 f)).alloc _, blk_two w .u8 65 (mk 16 zeroK) _, below_two w _ _⟩
  case round =>
    obtain ⟨k, hk, rfl, hz, hd, hb⟩ := hrel
    have HZ := Lib.hid hz
    have HD := Lib.hid hd
    have HB := Lib.hid hb
    by_cases hlt : k < 16
    · have hx := hf k hlt
      have HV := Lib.hid (mapTo_step 16 backN f (k := k) (v := backI (f k)) (backI_nat (f k)))
      have ci := hz.cell (i := k) (by rw [mk_len]; exact hlt)
      have cf := hz.free k
      have ki := key_index f hlt
      clear hz hd hb
      go_wp2_with (go_at_call 54; refine (Back_any _ (by omega) (by omega) _).mono ?_; rintro e w' ⟨rfl, rfl⟩)
      go_roundw
      case rel => exact ⟨k + 1, by omega, by go_num, by rw [← HV.out]; exact HZ.out.set k _, HD.out.other (by simp) _, HB.out.setCell (by simp) _⟩
      case measure => simp [intOf]; omega
    · obtain rfl : k = 16 := by omega
      have hd1 : decide (((16 : Nat) : Int) < 16) = false := rfl
      clear hz hd hb
      go_wp2_with (first
        | (refine wpList_load_row rfl 65 _ rfl w.heap.size rfl 65 (cellsOf .u8 (mk 16 (fun i => backN (f i)))) (0, 0) _ (by rw [← mapTo_end]; exact HZ.out) keyUnder rfl (keySize _) ?_)
        | (refine wpList_store_row rfl 65 _ _ rfl (w.heap.size + 1) _ rfl rfl 65 (cellsOf .u8 (mk 16 zeroK)) HD.out (keySize _) (by rw [cellsOf_size, cellsOf_size, mk_len, mk_len]) (cellsOf_one _ _) ?_))
      refine bodyPost_ret (results_cell_row rfl _ _ (w.heap.size + 1) 65 (cellsOf .u8 (mk 16 (fun i => backN (f i)))) (0, 0) _ rfl (HD.out.setRow .u8 (mk 16 (fun i => backN (f i)))) keyUnder rfl (keySize _)) rfl ⟨rfl, below_setRow HB.out (by omega) _⟩

set_option maxRecDepth 100000 in
set_option maxHeartbeats 1000000 in
theorem SubWord_any (f : Nat → Nat) (hf : ∀ i, i < 4 → f i < 256) (w : World) :
    Calls Try.prog 62 #[.agg (cellsOf .u8 (mk 4 f))] w fun e w' => e = .returned (.agg (cellsOf .u8 (mk 4 (fun i => subN (f i))))) ∧ Below w.heap.size w w' := by
  go_enter Try.func62, Try.ntmps62
  go_wp2_with (refine wpList_load_row rfl 87 _ rfl w.heap.size rfl 87 (cellsOf .u8 (mk 4 f)) (0, 0) _ ((IntBlk.new w .u8 87 (mk 4 f)).alloc _) wordUnder rfl (wordSize f) ?_)
  go_loopw [6] (fun v6 wr => ∃ k : Nat, k ≤ 4 ∧ v6 = .int .i64 k ∧ IntBlk wr w.heap.size .u8 87 (mk 4 (mapTo subN f k)) ∧ IntBlk wr (w.heap.size + 1) .u8 87 (mk 4 zeroK) ∧ Below w.heap.size w wr) (fun v6 _ => 4 - (intOf v6).toNat)
  case atStart => exact ⟨0, by omega, rfl, by rw [mapTo_zero]; exact (IntBlk.new w .u8 87 (mk 4 f)).alloc _, blk_two w .u8 87 (mk 4 zeroK) _, below_two w _ _⟩
  case round =>
    obtain ⟨k, hk, rfl, hz, hd, hb⟩ := hrel
    have HZ := Lib.hid hz
    have HD := Lib.hid hd
    have HB := Lib.hid hb
    by_cases hlt : k < 4
    · have hx := hf k hlt
      have HV := Lib.hid (mapTo_step 4 subN f (k := k) (v := subI (f k)) (subI_nat (f k)))
      have ci := hz.cell (i := k) (by rw [mk_len]; exact hlt)
      have cf := hz.free k
      have ki := word_index f hlt
      clear hz hd hb
      go_wp2_with (go_at_call 48; refine (Sub_any _ (by omega) (by omega) _).mono ?_; rintro e w' ⟨rfl, rfl⟩)
      go_roundw
      case rel => exact ⟨k + 1, by omega, by go_num, by rw [← HV.out]; exact HZ.out.set k _, HD.out.other (by simp) _, HB.out.setCell (by simp) _⟩
      case measure => simp [intOf]; omega
    · obtain rfl : k = 4 := by omega
      have hd1 : decide (((4 : Nat) : Int) < 4) = false := rfl
      clear hz hd hb
      go_wp2_with (first
        | (refine wpList_load_row rfl 87 _ rfl w.heap.size rfl 87 (cellsOf .u8 (mk 4 (fun i => subN (f i)))) (0, 0) _ (by rw [← mapTo_end]; exact HZ.out) wordUnder rfl (wordSize _) ?_)
        | (refine wpList_store_row rfl 87 _ _ rfl (w.heap.size + 1) _ rfl rfl 87 (cellsOf .u8 (mk 4 zeroK)) HD.out (wordSize _) (by rw [cellsOf_size, cellsOf_size, mk_len, mk_len]) (cellsOf_one _ _) ?_))
      refine bodyPost_ret (results_cell_row rfl _ _ (w.heap.size + 1) 87 (cellsOf .u8 (mk 4 (fun i => subN (f i)))) (0, 0) _ rfl (HD.out.setRow .u8 (mk 4 (fun i => subN (f i)))) wordUnder rfl (wordSize _)) rfl ⟨rfl, below_setRow HB.out (by omega) _⟩

end Go.Proofs.Ytghdeedglekphaa

/- Calls of package sbox's functions in regions whose order Go leaves open, over the class of worlds in which nothing that was there has turned. Conditions: the arguments' bytes are bytes. -/
namespace Go.Proofs.Ytghdeedglekphaa
open Go.ChangeShapes Go.WideShapes Go.ChangeAt Go.RowKit

/-- A call of a function of one byte. -/
theorem quiet_byte {o : Oper} {a : Act} {C : World → Prop} {K : Act → Prop} (x y : Operand) (ts : Array TypeId) (ho : o.op = .call { callee := .value x, args := #[y], argTypes := ts }) (g : FuncId) (hx : a.eval x = .func (.func g) #[] #[])
    (b : Int) (hy : a.eval y = .int .u8 b) (r : Int) (hf : ∀ (args : Array Value) (w : World), (callFunc g args).run Try.prog w = .ok (.enter g args) w)
    (hc : ∀ w, C w → Calls Try.prog g #[.int .u8 b] w fun e w' => e = .returned (.int .u8 r) ∧ C w') (hk : K (a.put o.dst (.int .u8 r))) : o.quiet Try.prog a C K :=
  quiet_calls x #[y] ts ho g _ _ hx (by simp only [List.map_toArray, List.map_cons, List.map_nil, hy]) (fun w => hf _ w) hc hk
theorem call_sub (args : Array Value) (w : World) : (callFunc 48 args).run Try.prog w = .ok (.enter 48 args) w := by simp [go_sem]
theorem call_suball (args : Array Value) (w : World) : (callFunc 35 args).run Try.prog w = .ok (.enter 35 args) w := by simp [go_sem]
theorem call_backall (args : Array Value) (w : World) : (callFunc 44 args).run Try.prog w = .ok (.enter 44 args) w := by simp [go_sem]
theorem class_sub {C : World → Prop} {b : Int} (h0 : 0 ≤ b) (h1 : b ≤ 255) : ∀ w, C w → Calls Try.prog 48 #[.int .u8 b] w fun e w' => e = .returned (.int .u8 (subI b)) ∧ C w' :=
  fun w hw => (Sub_any b h0 h1 w).mono fun _ _ ⟨he, hb⟩ => ⟨he, hb ▸ hw⟩
theorem class_suball {W0 : World} {f : Nat → Nat} (hf : ∀ i, i < 16 → f i < 256) : ∀ w, Below W0.heap.size W0 w → Calls Try.prog 35 #[.agg (cellsOf .u8 (mk 16 f))] w fun e w' => e = .returned (.agg (cellsOf .u8 (mk 16 (fun i => subN (f i))))) ∧ Below W0.heap.size W0 w' :=
  fun w hw => (SubAll_any f hf w).mono fun _ _ ⟨he, hb⟩ => ⟨he, hw.trans (hb.mono hw.size)⟩
theorem class_backall {W0 : World} {f : Nat → Nat} (hf : ∀ i, i < 16 → f i < 256) : ∀ w, Below W0.heap.size W0 w → Calls Try.prog 44 #[.agg (cellsOf .u8 (mk 16 f))] w fun e w' => e = .returned (.agg (cellsOf .u8 (mk 16 (fun i => backN (f i))))) ∧ Below W0.heap.size W0 w' :=
  fun w hw => (BackAll_any f hf w).mono fun _ _ ⟨he, hb⟩ => ⟨he, hw.trans (hb.mono hw.size)⟩
end Go.Proofs.Ytghdeedglekphaa

/- The contract of package field's Xor: it answers the exclusive or of two keys, and writes nothing that was there. Condition: the keys' bytes are bytes. -/
namespace Go.Proofs.Ytghdeedglekphaa
open Go.ChangeShapes Go.WideShapes Go.ChangeAt Go.RowKit

set_option maxRecDepth 100000 in
set_option maxHeartbeats 1000000 in
theorem Xor_any (f g : Nat → Nat) (hf : IsKey f) (hg : IsKey g) (w : World) :
    Calls Try.prog 38 #[.agg (cellsOf .u8 (mk 16 f)), .agg (cellsOf .u8 (mk 16 g))] w fun e w' => e = .returned (.agg (cellsOf .u8 (mk 16 (xorK f g)))) ∧ Below w.heap.size w w' := by
  go_enter Try.func38, Try.ntmps38
  go_wp2
  go_loopw [7] (fun v7 wr => ∃ k : Nat, k ≤ 16 ∧ v7 = .int .i64 k ∧ IntBlk wr w.heap.size .u8 65 (mk 16 f) ∧ IntBlk wr (w.heap.size + 1) .u8 65 (mk 16 g) ∧ IntBlk wr (w.heap.size + 1 + 1) .u8 65 (mk 16 zeroK) ∧ IntBlk wr (w.heap.size + 1 + 1 + 1) .u8 65 (mk 16 (xorTo f g k)) ∧ Below w.heap.size w wr) (fun v7 _ => 16 - (intOf v7).toNat)
  case atStart => exact ⟨0, by omega, rfl, (blk_first w .u8 _ (mk 16 f) _ _).alloc _, (blk_second w .u8 _ (mk 16 g) _ _).alloc _, (blk_third w .u8 _ (mk 16 zeroK) _ _).alloc _, by rw [xorTo_start]; exact blk_fourth w .u8 _ (mk 16 zeroK) _ _ _, below_four w _ _ _ _⟩
  case round =>
    obtain ⟨k, hk, rfl, ha, hb, hz, hd, hw⟩ := hrel
    have HA := Lib.hid ha
    have HB := Lib.hid hb
    have HZ := Lib.hid hz
    have HD := Lib.hid hd
    have HW := Lib.hid hw
    by_cases hlt : k < 16
    · have c1 := ha.cell (i := k) (by rw [mk_len]; exact hlt)
      have c2 := hb.cell (i := k) (by rw [mk_len]; exact hlt)
      have c3 := hd.cell (i := k) (by rw [mk_len]; exact hlt)
      rw [mk_get hlt] at c1 c2
      have f1 := ha.free k
      have f2 := hb.free k
      have f3 := hd.free k
      have hx := hf k hlt
      have hy := hg k hlt
      have HV := Lib.hid (xorK_bits (f := f) (g := g) hx hy)
      clear ha hb hz hd hw
      go_wp2
      have e1 : (k : Int) < 16 := by omega
      have e2 : (0 : Int) ≤ k := by omega
      refine wp_region_still_tail 9 (by kernel_rfl) (by kernel_rfl) ?_
      simp only [List.take_succ_cons, List.take_zero, List.drop_succ_cons, List.drop_zero]
      change wpStill _ _ wr.drew (fun a' => wpList _ _ _ _ a' wr.drew) _ _
      iterate 9 still_step
      refine wpStill_nil ?_
      go_wp2
      go_roundw
      case rel => exact ⟨k + 1, by omega, by go_num, (HA.out.other (by show w.heap.size + 1 + 1 + 1 ≠ w.heap.size; omega) _).drew, (HB.out.other (by show w.heap.size + 1 + 1 + 1 ≠ w.heap.size + 1; omega) _).drew, (HZ.out.other (by show w.heap.size + 1 + 1 + 1 ≠ w.heap.size + 1 + 1; omega) _).drew, by rw [HV.out, ← xorTo_step]; exact (HD.out.set k _).drew, (HW.out.setCell (by show w.heap.size ≤ w.heap.size + 1 + 1 + 1; omega) _).drew⟩
      case measure => simp [intOf]; omega
    · obtain rfl : k = 16 := by omega
      clear ha hb hz hd hw
      go_wp2_with (first
        | (refine wpList_load_row rfl 65 _ rfl (w.heap.size + 1 + 1 + 1) rfl 65 (cellsOf .u8 (mk 16 (xorK f g))) (0, 0) _ (by rw [← xorTo_end]; exact HD.out) keyUnder rfl (keySize _) ?_)
        | (refine wpList_store_row rfl 65 _ _ rfl (w.heap.size + 1 + 1) _ rfl rfl 65 (cellsOf .u8 (mk 16 zeroK)) HZ.out (keySize _) (by rw [cellsOf_size, cellsOf_size, mk_len, mk_len]) (cellsOf_one _ _) ?_))
      refine bodyPost_ret (results_cell_row rfl _ _ (w.heap.size + 1 + 1) 65 (cellsOf .u8 (mk 16 (xorK f g))) (0, 0) _ rfl (HZ.out.setRow .u8 (mk 16 (xorK f g))) keyUnder rfl (keySize _)) rfl ⟨rfl, below_setRow HW.out (by omega) _⟩
end Go.Proofs.Ytghdeedglekphaa

/- The iterator of package field's Powers: in round i it hands yield the byte's i-th power, for ever, as long as the caller goes with it. Condition: the caller's invariant bounds the rounds' number and keeps the byte's box. -/
namespace Go.Proofs.Ytghdeedglekphaa
open Go.RowKit Go.Shelf
attribute [local go_sem] Oper.semAt_some

/-- A byte's power. -/
def powI (b : Int) : Nat → Int
  | 0 => 1
  | i + 1 => mulI (powI b i) b
theorem powI_bd {b : Int} : ∀ i, 0 ≤ powI b i ∧ powI b i ≤ 255
  | 0 => by unfold powI; omega
  | i + 1 => mulI_bd (powI_bd i).2
/-- k rounds at most are still to come. -/
def toCome (M : Nat) (b : Int) (J : Nat → World → Prop) (v : Value) (w : World) (k : Nat) : Prop := ∃ i, i + k = M + 1 ∧ v = .int .u8 (powI b i) ∧ J i w

set_option maxRecDepth 100000 in
set_option maxHeartbeats 1000000 in
theorem powers_told (m : Nat) (Bb M : Nat) (b : Int) (b0 : 0 ≤ b) (b1 : b ≤ 255) (I : Nat → World → Prop) (hM : ∀ i W, I i W → i ≤ M) (hb : ∀ i W, I i W → W.cell? ⟨Bb, 0, none⟩ = some (.int .u8 b)) :
    ToldBy Fence.wide m Try.prog 68 #[.pointer (some ⟨Bb, 0, none⟩)] (fun i => #[.int .u8 (powI b i)]) I := fun l J Jx W hJI hY h0 => by
  refine callsIn_of_wp Try.func68 rfl trivial ?_ rfl
  simp only [Try.ntmps68, List.size_toArray, List.length_cons, List.length_nil, Nat.reduceAdd, Nat.reduceSub, Array.replicate_succ, Array.replicate_zero, List.push_toArray, List.append_toArray, List.nil_append, List.cons_append]
  have HJ := Lib.hid hJI
  have HY := Lib.hid hY
  have HM := Lib.hid hM
  have HB := Lib.hid hb
  clear hJI hY hM hb
  gi_wp2
  gi_loopw [3] (fun v wr => ∃ k, toCome M b J v wr k) (fun v wr => leastOf (toCome M b J v wr))
  case atStart => exact ⟨M + 1, 0, by omega, rfl, h0⟩
  case round =>
    obtain ⟨i, hik, rfl, hJ⟩ := (leastOf_spec hrel).1
    clear hrel
    have HIK := Lib.hid hik
    have HJ0 := Lib.hid hJ
    have pb := powI_bd (b := b) i
    clear hik
    obtain ⟨fn, tmps, assign, body, hy, hR⟩ := HY.out i wr hJ
    clear hJ
    gi_wp2
    refine ⟨(fun h => by cases h), hR.mono ?_⟩
    rintro e W3 (⟨rfl, hJ3⟩ | ⟨rfl, hx3⟩)
    · have hM3 := HM.out _ _ (HJ.out _ _ hJ3)
      have hB3 := HB.out _ _ (HJ.out _ _ hJ3)
      have H3 := Lib.hid hJ3
      clear hR hy hJ3
      gi_wp2
      refine ⟨trivial, (fun h => by cases h), ?_⟩
      refine (callsIn_wide.2 (Mul_any _ _ pb.1 pb.2 b0 b1 _)).mono ?_
      rintro e w' ⟨rfl, rfl⟩
      gi_wp2
      go_roundw
      case rel => exact ⟨M - i, i + 1, by omega, rfl, H3.out⟩
      case measure =>
        have hp : toCome M b J (.int .u8 (powI b (i + 1))) W3 (M - i) := ⟨i + 1, by omega, rfl, H3.out⟩
        have h1 := (leastOf_spec ⟨_, hp⟩).2 _ hp
        have h2 := HIK.out
        exact Nat.lt_of_le_of_lt h1 (by show M - i < leastOf (toCome M b J (.int .u8 (powI b i)) wr); omega)
    · gi_wp2
      go_end0
      exact ⟨⟨_, rfl⟩, hx3⟩
end Go.Proofs.Ytghdeedglekphaa

/- The iterator's maker. No condition. -/
namespace Go.Proofs.Ytghdeedglekphaa
open Go.ChangeShapes Go.WideShapes Go.ChangeAt Go.RowKit Go.Shelf

theorem Powers_any (b : Int) (w : World) : Calls Try.prog 67 #[.int .u8 b] w fun e w' => e = .returned (.func (.func 68) #[] #[.pointer (some ⟨w.heap.size, 0, none⟩)]) ∧ w.alloc (.cells #[.int .u8 b] 5) = w' := by
  go_enter Try.func67, Try.ntmps67
  go_wp2
  go_ret
  exact ⟨rfl, rfl⟩
end Go.Proofs.Ytghdeedglekphaa

/- The contract of package sbox's Constant: the word whose first byte is a power of 2, if there is such a round, else noughts; and it writes nothing that was there. Condition: the argument is an int. -/
namespace Go.Proofs.Ytghdeedglekphaa
open Go.ChangeShapes Go.WideShapes Go.ChangeAt Go.RowKit Go.Shelf
attribute [local go_sem] Oper.semAt_some

theorem keeps_below {W W' : World} (h : Below W.heap.size W W') : KeepsOthers W W' :=
  ⟨h.size, fun k _ hk _ => (h.block k (Array.getElem?_eq_some_iff.1 hk).1).trans hk⟩
/-- A round's constant's first byte. -/
def conI (i : Int) : Int := if 1 ≤ i ∧ i ≤ 60 then powI 2 (i.toNat - 1) else 0
def conN (i : Int) : Nat := (conI i).toNat
theorem conI_bd (i : Int) : 0 ≤ conI i ∧ conI i ≤ 255 := by
  unfold conI; split
  · exact powI_bd _
  · omega
theorem conN_is (i : Int) : ((conN i : Nat) : Int) = conI i := Int.toNat_of_nonneg (conI_bd i).1
theorem conI_in {i : Int} {M : Nat} (h : i = (M : Int)) (h1 : 1 ≤ M) (h2 : M ≤ 60) : conI i = powI 2 (M - 1) := by
  subst h; unfold conI; rw [if_pos (by omega)]; rfl
theorem oneK_set {v : Int} {n : Nat} (hv : v = (n : Int)) : (mk 4 zeroK).set 0 v = mk 4 (oneK n) := mk_set_is hv fun _ _ => rfl

set_option maxRecDepth 100000 in
set_option maxHeartbeats 1000000 in
theorem Constant_out (i : Int) (h : i < 1 ∨ 60 < i) (w : World) :
    Calls Try.prog 64 #[.int .i64 i] w fun e w' => e = .returned (.agg (cellsOf .u8 (mk 4 (oneK (conN i))))) ∧ Below w.heap.size w w' := by
  have hc : mk 4 (oneK (conN i)) = mk 4 zeroK := mk_ext fun j _ => by
    have : conN i = 0 := by unfold conN conI; rw [if_neg (by omega)]; rfl
    unfold oneK zeroK; rw [this]; split <;> rfl
  have HC := Lib.hid hc; clear hc
  have HZ := Lib.hid (blk_third w .u8 87 (mk 4 zeroK) (.cells #[.int .i64 i] 3) (.cells (cellsOf .u8 (mk 4 zeroK)) 87))
  have HD := Lib.hid (blk_second w .u8 87 (mk 4 zeroK) (.cells #[.int .i64 i] 3) (.cells (cellsOf .u8 (mk 4 zeroK)) 87))
  have HB := Lib.hid (below_three w (.cells #[.int .i64 i] 3) (.cells (cellsOf .u8 (mk 4 zeroK)) 87) (.cells (cellsOf .u8 (mk 4 zeroK)) 87))
  by_cases h1 : i < 1
  · have hd : decide (i < 1) = true := by simpa using h1
    go_enter Try.func64, Try.ntmps64
    go_wp2_with (first
      | (refine wpList_load_row rfl 87 _ rfl (w.heap.size + 1 + 1) rfl 87 (cellsOf .u8 (mk 4 zeroK)) (0, 0) _ HZ.out wordUnder rfl (wordSize _) ?_)
      | (refine wpList_store_row rfl 87 _ _ rfl (w.heap.size + 1) _ rfl rfl 87 (cellsOf .u8 (mk 4 zeroK)) HD.out (wordSize _) rfl (cellsOf_one _ _) ?_))
    rw [HC.out]
    refine bodyPost_ret (results_cell_row rfl _ _ (w.heap.size + 1) 87 (cellsOf .u8 (mk 4 zeroK)) (0, 0) _ rfl (HD.out.setRow .u8 (mk 4 zeroK)) wordUnder rfl (wordSize _)) rfl ⟨rfl, below_setRow HB.out (by omega) _⟩
  · have h2 : 60 < i := by omega
    have hd : decide (i < 1) = false := by simpa using h1
    have hd2 : decide (60 < i) = true := by simpa using h2
    go_enter Try.func64, Try.ntmps64
    go_wp2_with (first
      | (refine wpList_load_row rfl 87 _ rfl (w.heap.size + 1 + 1) rfl 87 (cellsOf .u8 (mk 4 zeroK)) (0, 0) _ HZ.out wordUnder rfl (wordSize _) ?_)
      | (refine wpList_store_row rfl 87 _ _ rfl (w.heap.size + 1) _ rfl rfl 87 (cellsOf .u8 (mk 4 zeroK)) HD.out (wordSize _) rfl (cellsOf_one _ _) ?_))
    rw [HC.out]
    refine bodyPost_ret (results_cell_row rfl _ _ (w.heap.size + 1) 87 (cellsOf .u8 (mk 4 zeroK)) (0, 0) _ rfl (HD.out.setRow .u8 (mk 4 zeroK)) wordUnder rfl (wordSize _)) rfl ⟨rfl, below_setRow HB.out (by omega) _⟩

theorem below_cell {M B : Nat} {a w : World} (h : Below M a w) (hB : M ≤ B) (i : Nat) (v : Value) : Below M a (w.setCell ⟨B, i, none⟩ v) := h.setCell hB v
/-- Between two rounds: k of them are over, of M. -/
def CnI (w : World) (M k : Nat) (W : World) : Prop :=
  k < M ∧ IntBlk W w.heap.size .i64 3 [(M : Int)] ∧ IntBlk W (w.heap.size + 1) .u8 87 (mk 4 zeroK) ∧ IntBlk W (w.heap.size + 1 + 1) .u8 87 (mk 4 zeroK) ∧ IntBlk W (w.heap.size + 1 + 1 + 1) .i64 3 [(k : Int) + 1] ∧ IntBlk W (w.heap.size + 1 + 1 + 1 + 1) .u8 5 [2] ∧ Below w.heap.size w W
/-- Behind the last one. -/
def CnX (w : World) (M : Nat) (c : Code) (W : World) : Prop := c = .exit 0 ∧ IntBlk W (w.heap.size + 1) .u8 87 (mk 4 zeroK) ∧ IntBlk W (w.heap.size + 1 + 1) .u8 87 (mk 4 (oneK (powI 2 (M - 1)).toNat)) ∧ Below w.heap.size w W
theorem CnI.turn {w W : World} {M k l : Nat} {o o' : Obj} (h : CnI w M k W) (hl : w.heap.size ≤ l) (ho : W.heap[l]? = some o) (hc : o.isCells = false) : CnI w M k (W.putObj l o') := by
  obtain ⟨h1, h2, h3, h4, h5, h6, h7⟩ := h
  exact ⟨h1, cells_turn h2 ho hc, cells_turn h3 ho hc, cells_turn h4 ho hc, cells_turn h5 ho hc, cells_turn h6 ho hc, below_turn _ h7 hl⟩
theorem CnX.turn {w W : World} {M : Nat} {c : Code} {l : Nat} {o o' : Obj} (h : CnX w M c W) (hl : w.heap.size ≤ l) (ho : W.heap[l]? = some o) (hc : o.isCells = false) : CnX w M c (W.putObj l o') :=
  ⟨h.1, cells_turn h.2.1 ho hc, cells_turn h.2.2.1 ho hc, below_turn _ h.2.2.2 hl⟩
theorem CnI.box {w W : World} {M k : Nat} (h : CnI w M k W) : W.cell? ⟨w.heap.size + 1 + 1 + 1 + 1, 0, none⟩ = some (.int .u8 2) := h.2.2.2.2.2.1.cell (i := 0) (by simp)

set_option maxRecDepth 100000 in
set_option maxHeartbeats 2000000 in
theorem Constant_in (M : Nat) (h1 : 1 ≤ M) (h2 : M ≤ 60) (w : World) :
    Calls Try.prog 64 #[.int .i64 M] w fun e w' => e = .returned (.agg (cellsOf .u8 (mk 4 (oneK (conN M))))) ∧ Below w.heap.size w w' := by
  have hc : conN M = (powI 2 (M - 1)).toNat := by unfold conN; rw [conI_in rfl h1 h2]
  have hd1 : decide ((M : Int) < 1) = false := by simp; omega
  have hd2 : decide (60 < (M : Int)) = false := by simp; omega
  rw [hc]; clear hc
  refine (callsIn_wide (n := 3)).1 ?_
  refine callsIn_of_wp_marks Try.func64 rfl trivial ?_ rfl
  simp only [Try.ntmps64, List.size_toArray, List.length_cons, List.length_nil, Nat.reduceAdd, Nat.reduceSub, Array.replicate_succ, Array.replicate_zero, List.push_toArray, List.append_toArray, List.nil_append, List.cons_append]
  gi_wp2
  refine ⟨trivial, (callsIn_wide.2 (Powers_any 2 _)).mono ?_⟩
  rintro e w2 ⟨rfl, rfl⟩
  gi_wp2
  have hs : (((((w.alloc (.cells #[.int .i64 M] 3)).alloc (.cells (cellsOf .u8 (mk 4 zeroK)) 87)).alloc (.cells (cellsOf .u8 (mk 4 zeroK)) 87)).alloc (.cells #[.int .i64 1] 3)).alloc (.cells #[.int .u8 2] 5)).heap.size = w.heap.size + 5 := by simp
  have BI : ∀ o o', CnI w M 0 (((((((w.alloc (.cells #[.int .i64 M] 3)).alloc (.cells (cellsOf .u8 (mk 4 zeroK)) 87)).alloc (.cells (cellsOf .u8 (mk 4 zeroK)) 87)).alloc (.cells #[.int .i64 1] 3)).alloc (.cells #[.int .u8 2] 5)).alloc o).alloc o') := fun o o' =>
    ⟨by omega, ((((((IntBlk.new w .i64 3 [(M : Int)]).alloc _).alloc _).alloc _).alloc _).alloc _).alloc _, (((((blk_two w .u8 87 (mk 4 zeroK) _).alloc _).alloc _).alloc _).alloc _).alloc _,
      ((((blk_third w .u8 87 (mk 4 zeroK) _ _).alloc _).alloc _).alloc _).alloc _, (((blk_fourth w .i64 3 [1] _ _ _).alloc _).alloc _).alloc _, ((blk_fifth w .u8 5 [2] _ _ _ _).alloc _).alloc _,
      (((below_four w _ _ _ _).alloc (by simp; omega) _).alloc (by simp; omega) _).alloc (by simp; omega) _⟩
  change Code.wpIn _ _ _ _ _ _ (((((w.alloc (.cells #[.int .i64 M] 3)).alloc (.cells (cellsOf .u8 (mk 4 zeroK)) 87)).alloc (.cells (cellsOf .u8 (mk 4 zeroK)) 87)).alloc (.cells #[.int .i64 1] 3)).alloc (.cells #[.int .u8 2] 5))
  generalize ((((w.alloc (.cells #[.int .i64 M] 3)).alloc (.cells (cellsOf .u8 (mk 4 zeroK)) 87)).alloc (.cells (cellsOf .u8 (mk 4 zeroK)) 87)).alloc (.cells #[.int .i64 1] 3)).alloc (.cells #[.int .u8 2] 5) = W0 at *
  have HI := Lib.hid BI
  clear BI
  refine range_told rfl (by omega) (gf := 68) (lb := #[.pointer (some ⟨w.heap.size + 1 + 1 + 1 + 1, 0, none⟩)]) rfl trivial (enters_of Try.func68 (by kernel_rfl) rfl)
    (fun k => #[.int .u8 (powI 2 k)]) (fun _ => rfl) (CnI w M) (CnX w M) (fun k W l o o' hl ho hc h => h.turn (by omega) ho hc) (fun c W l o o' hl ho hc h => h.turn (by omega) ho hc) HI.out
    (powers_told _ (w.heap.size + 1 + 1 + 1 + 1) M 2 (by omega) (by omega) (CnI w M) (fun k W h => Nat.le_of_lt h.1) (fun k W h => h.box))
    (fun k => { tmps := #[.int .i64 M, .pointer (some ⟨w.heap.size, 0, none⟩), .pointer (some ⟨w.heap.size + 1, 0, none⟩), .pointer (some ⟨w.heap.size + 1 + 1, 0, none⟩), .pointer (some ⟨w.heap.size + 1 + 1 + 1, 0, none⟩), .int .u8 (powI 2 k), .int .i64 M, .bool false, .bool false, .int .i64 M, .bool false, .bool false, undef,
      .func (.func 68) #[] #[.pointer (some ⟨w.heap.size + 1 + 1 + 1 + 1, 0, none⟩)], .int .u8 (powI 2 k), undef, undef, undef, undef, undef, undef, undef, undef], defers := [] }) ?assign ?body ?stop
  case assign =>
    intro l k W K hi hK
    clear HI
    gi_wp2
    exact hK
  case stop =>
    rintro D c W hD ⟨rfl, hr, hk, hw⟩ hd
    clear HI
    have r0 := hr.free 0
    have r1 := hr.free 1
    have r2 := hr.free 2
    have r3 := hr.free 3
    have z0 := hr.cell (i := 0) (by rw [mk_len]; omega)
    have z1 := hr.cell (i := 1) (by rw [mk_len]; omega)
    have z2 := hr.cell (i := 2) (by rw [mk_len]; omega)
    have z3 := hr.cell (i := 3) (by rw [mk_len]; omega)
    have k0 := hk.cell (i := 0) (by rw [mk_len]; omega)
    have k1 := hk.cell (i := 1) (by rw [mk_len]; omega)
    have k2 := hk.cell (i := 2) (by rw [mk_len]; omega)
    have k3 := hk.cell (i := 3) (by rw [mk_len]; omega)
    rw [mk_get (by omega)] at k0 k1 k2 k3
    have HR := Lib.hid hr
    have HW := Lib.hid hw
    have HD := Lib.hid hd
    clear hr hk hw hd
    gi_wp2
    have hl : ((((mk 4 zeroK).set 0 (oneK (powI 2 (M - 1)).toNat 0 : Nat)).set 1 (oneK (powI 2 (M - 1)).toNat 1 : Nat)).set 2 (oneK (powI 2 (M - 1)).toNat 2 : Nat)).set 3 (oneK (powI 2 (M - 1)).toNat 3 : Nat) = mk 4 (oneK (powI 2 (M - 1)).toNat) := rfl
    have HB := (((HR.out.set 0 (oneK (powI 2 (M - 1)).toNat 0 : Nat)).set 1 (oneK (powI 2 (M - 1)).toNat 1 : Nat)).set 2 (oneK (powI 2 (M - 1)).toNat 2 : Nat)).set 3 (oneK (powI 2 (M - 1)).toNat 3 : Nat)
    rw [hl] at HB
    have sb : w.heap.size ≤ w.heap.size + 1 := by omega
    have HE := below_cell (below_cell (below_cell (below_cell HW.out sb 0 (.int .u8 (oneK (powI 2 (M - 1)).toNat 0 : Nat))) sb 1 (.int .u8 (oneK (powI 2 (M - 1)).toNat 1 : Nat))) sb 2 (.int .u8 (oneK (powI 2 (M - 1)).toNat 2 : Nat))) sb 3 (.int .u8 (oneK (powI 2 (M - 1)).toNat 3 : Nat))
    have ne : D ≠ w.heap.size + 1 := by omega
    have HF := (Below.heap_setCell (((W.setCell ⟨w.heap.size + 1, 0, none⟩ (.int .u8 (oneK (powI 2 (M - 1)).toNat 0 : Nat))).setCell ⟨w.heap.size + 1, 1, none⟩ (.int .u8 (oneK (powI 2 (M - 1)).toNat 1 : Nat))).setCell ⟨w.heap.size + 1, 2, none⟩ (.int .u8 (oneK (powI 2 (M - 1)).toNat 2 : Nat))) ⟨w.heap.size + 1, 3, none⟩ (.int .u8 (oneK (powI 2 (M - 1)).toNat 3 : Nat)) D ne).trans ((Below.heap_setCell _ ⟨w.heap.size + 1, 2, none⟩ _ D ne).trans ((Below.heap_setCell _ ⟨w.heap.size + 1, 1, none⟩ _ D ne).trans ((Below.heap_setCell _ ⟨w.heap.size + 1, 0, none⟩ _ D ne).trans HD.out)))
    clear HR HW HD hl r0 r1 r2 r3 z0 z1 z2 z3 k0 k1 k2 k3
    generalize (((W.setCell ⟨w.heap.size + 1, 0, none⟩ (.int .u8 (oneK (powI 2 (M - 1)).toNat 0 : Nat))).setCell ⟨w.heap.size + 1, 1, none⟩ (.int .u8 (oneK (powI 2 (M - 1)).toNat 1 : Nat))).setCell ⟨w.heap.size + 1, 2, none⟩ (.int .u8 (oneK (powI 2 (M - 1)).toNat 2 : Nat))).setCell ⟨w.heap.size + 1, 3, none⟩ (.int .u8 (oneK (powI 2 (M - 1)).toNat 3 : Nat)) = V at *
    refine ⟨by simp, .inl ⟨_, _, rfl, run_takeDeferred HF, ?_⟩⟩
    have HG := cells_turn (o' := .deferred none) HB HF rfl
    exact ⟨_, results_cell_row rfl _ _ (w.heap.size + 1) 87 (cellsOf .u8 (mk 4 (oneK (powI 2 (M - 1)).toNat))) (0, 0) _ rfl HG wordUnder rfl (wordSize _), rfl, below_turn _ HE (by omega)⟩
  case body =>
    intro l k W l1 l2 h
    clear HI
    obtain ⟨hi, hb0, hr, hk, hn, hx, hw⟩ := h
    have c0 : W.cell? ⟨w.heap.size, 0, none⟩ = some (.int .i64 M) := hb0.cell (i := 0) (by simp)
    have cn : W.cell? ⟨w.heap.size + 1 + 1 + 1, 0, none⟩ = some (.int .i64 ((k : Int) + 1)) := hn.cell (i := 0) (by simp)
    have fn := hn.free 0
    have ck := hk.cell (i := 0) (by rw [mk_len]; omega)
    rw [mk_get (by omega)] at ck
    have fk := hk.free 0
    have H0 := Lib.hid hb0
    have HR := Lib.hid hr
    have HK := Lib.hid hk
    have HN := Lib.hid hn
    have HX := Lib.hid hx
    have HW := Lib.hid hw
    clear hb0 hr hk hn hx hw
    by_cases hl : k + 1 = M
    · have t1 : ((k : Int) + 1 == (M : Int)) = true := by simp; omega
      have hv := oneK_set (v := powI 2 k) (n := (powI 2 (M - 1)).toNat) (by rw [show M - 1 = k by omega]; have := (powI_bd (b := 2) k).1; omega)
      have HV := Lib.hid hv
      clear hv hl
      gi_wp2
      exact ⟨KeepsOthers.setCell _ _ _, rfl, HR.out.other (by show w.heap.size + 1 + 1 ≠ w.heap.size + 1; omega) _, by rw [← HV.out]; exact HK.out.set 0 _, HW.out.setCell (by show w.heap.size ≤ w.heap.size + 1 + 1; omega) _⟩
    · have t1 : ((k : Int) + 1 == (M : Int)) = false := by simp; omega
      have hlt : k + 1 < M := by omega
      have e1 : IntKind.i64.wrap ((k : Int) + 1 + 1) = (k : Int) + 1 + 1 := IntWalk.i64_in _ (by omega)
      clear hl
      gi_wp2
      exact ⟨KeepsOthers.setCell _ _ _, hlt, H0.out.other (by show w.heap.size + 1 + 1 + 1 ≠ w.heap.size; omega) _, HR.out.other (by show w.heap.size + 1 + 1 + 1 ≠ w.heap.size + 1; omega) _, HK.out.other (by show w.heap.size + 1 + 1 + 1 ≠ w.heap.size + 1 + 1; omega) _,
        HN.out.set 0 _, HX.out.other (by show w.heap.size + 1 + 1 + 1 ≠ w.heap.size + 1 + 1 + 1 + 1; omega) _, HW.out.setCell (by show w.heap.size ≤ w.heap.size + 1 + 1 + 1; omega) _⟩
end Go.Proofs.Ytghdeedglekphaa

/- The contract of package sbox's Rotate: it answers the word with its first byte behind the others, and writes nothing that was there. Condition: the word's bytes are bytes. -/
namespace Go.Proofs.Ytghdeedglekphaa
open Go.ChangeShapes Go.WideShapes Go.ChangeAt Go.RowKit

def turnK (f : Nat → Nat) : Nat → Nat := fun i => f ((i + 1) % 4)

set_option maxRecDepth 100000 in
set_option maxHeartbeats 1000000 in
theorem Rotate_any (f : Nat → Nat) (w : World) :
    Calls Try.prog 63 #[.agg (cellsOf .u8 (mk 4 f))] w fun e w' => e = .returned (.agg (cellsOf .u8 (mk 4 (turnK f)))) ∧ Below w.heap.size w w' := by
  have hd : IntBlk ((w.alloc (.cells (cellsOf .u8 (mk 4 f)) 87)).alloc (.cells (cellsOf .u8 (mk 4 zeroK)) 87)) (w.heap.size + 1) .u8 87 (mk 4 zeroK) := blk_two w .u8 87 (mk 4 zeroK) _
  have hb := below_two w (.cells (cellsOf .u8 (mk 4 f)) 87) (.cells (cellsOf .u8 (mk 4 zeroK)) 87)
  have HD := Lib.hid hd
  have HB := Lib.hid hb
  clear hd hb
  go_enter Try.func63, Try.ntmps63
  have g0 : (cellsOf .u8 (mk 4 f))[0]? = some (.int .u8 (f 0)) := by rw [cellsOf_get _ _ (by rw [mk_len]; omega), mk_get (by omega)]
  have g1 : (cellsOf .u8 (mk 4 f))[1]? = some (.int .u8 (f 1)) := by rw [cellsOf_get _ _ (by rw [mk_len]; omega), mk_get (by omega)]
  have g2 : (cellsOf .u8 (mk 4 f))[2]? = some (.int .u8 (f 2)) := by rw [cellsOf_get _ _ (by rw [mk_len]; omega), mk_get (by omega)]
  have g3 : (cellsOf .u8 (mk 4 f))[3]? = some (.int .u8 (f 3)) := by rw [cellsOf_get _ _ (by rw [mk_len]; omega), mk_get (by omega)]
  go_wp2_with (first
    | (refine wpList_buildTo rfl 87 _ rfl (some 11) rfl (cellsOf .u8 (mk 4 (turnK f))) (by kernel_rfl) ?_)
    | (refine wpList_store_row rfl 87 _ _ rfl (w.heap.size + 1) (cellsOf .u8 (mk 4 (turnK f))) rfl rfl 87 (cellsOf .u8 (mk 4 zeroK)) HD.out (wordSize _) (by rw [cellsOf_size, cellsOf_size, mk_len, mk_len]) (cellsOf_one _ _) ?_))
  refine bodyPost_ret (results_cell_row rfl _ _ (w.heap.size + 1) 87 (cellsOf .u8 (mk 4 (turnK f))) (0, 0) _ rfl (HD.out.setRow .u8 (mk 4 (turnK f))) wordUnder rfl (wordSize _)) rfl ⟨rfl, below_setRow HB.out (by omega) _⟩
end Go.Proofs.Ytghdeedglekphaa

/- The contracts of package cipher's Shift and Unshift: each answers the key that the plain functions say, and writes nothing that was there. Condition: the key's bytes are bytes. -/
namespace Go.Proofs.Ytghdeedglekphaa
open Go.ChangeShapes Go.WideShapes Go.ChangeAt Go.RowKit

/-- The place from which a byte comes; and back. -/
def fromN (k : Nat) : Nat := (k + 4 * (k % 4)) % 16
def backP (k : Nat) : Nat := (k + 12 * (k % 4)) % 16
theorem fromN_lt (k : Nat) : fromN k < 16 := by unfold fromN; omega
theorem backP_lt (k : Nat) : backP k < 16 := by unfold backP; omega
theorem from_back {k : Nat} (h : k < 16) : fromN (backP k) = k := by
  have t : ∀ a : Fin 16, fromN (backP a.val) = a.val := by decide +kernel
  exact t ⟨k, h⟩
theorem back_from {k : Nat} (h : k < 16) : backP (fromN k) = k := by
  have t : ∀ a : Fin 16, backP (fromN a.val) = a.val := by decide +kernel
  exact t ⟨k, h⟩
def shK (f : Nat → Nat) (j : Nat) : Nat := f (fromN j)
def unK (f : Nat → Nat) (j : Nat) : Nat := f (backP j)
theorem shK_key {f : Nat → Nat} (h : IsKey f) : IsKey (shK f) := fun j _ => h _ (fromN_lt j)
theorem unK_key {f : Nat → Nat} (h : IsKey f) : IsKey (unK f) := fun j _ => h _ (backP_lt j)
def shTo (f : Nat → Nat) (k : Nat) : Nat → Nat := fun j => if j < k then shK f j else 0
theorem shTo_start (f : Nat → Nat) : mk 16 (shTo f 0) = mk 16 zeroK := mk_ext fun j _ => by unfold shTo zeroK; rw [if_neg (by omega)]
theorem shTo_end (f : Nat → Nat) : mk 16 (shTo f 16) = mk 16 (shK f) := mk_ext fun j hj => by unfold shTo; rw [if_pos hj]
theorem shTo_step (f : Nat → Nat) (k : Nat) : (mk 16 (shTo f k)).set k (f (fromN k) : Nat) = mk 16 (shTo f (k + 1)) := by
  refine mk_set_is rfl fun j _ => ?_
  unfold shTo
  by_cases e : j = k
  · subst e; rw [if_pos rfl, if_pos (by omega)]; rfl
  · rw [if_neg e]
    by_cases l : j < k
    · rw [if_pos l, if_pos (by omega)]
    · rw [if_neg l, if_neg (by omega)]
def unTo (f : Nat → Nat) (k : Nat) : Nat → Nat := fun j => if backP j < k then unK f j else 0
theorem unTo_start (f : Nat → Nat) : mk 16 (unTo f 0) = mk 16 zeroK := mk_ext fun j _ => by unfold unTo zeroK; rw [if_neg (by omega)]
theorem unTo_end (f : Nat → Nat) : mk 16 (unTo f 16) = mk 16 (unK f) := mk_ext fun j hj => by unfold unTo; rw [if_pos (backP_lt j)]
theorem unTo_step (f : Nat → Nat) {k : Nat} (hk : k < 16) : (mk 16 (unTo f k)).set (fromN k) (f k : Nat) = mk 16 (unTo f (k + 1)) := by
  refine mk_set_is rfl fun j hj => ?_
  unfold unTo
  by_cases e : j = fromN k
  · subst e; rw [if_pos rfl, back_from hk, if_pos (by omega)]; unfold unK; rw [back_from hk]
  · have ne : backP j ≠ k := fun h => e (by rw [← h, from_back hj])
    rw [if_neg e]
    by_cases l : backP j < k
    · rw [if_pos l, if_pos (by omega)]
    · rw [if_neg l, if_neg (by omega)]

set_option maxHeartbeats 400000 in
theorem from_any (k : Nat) (hk : k < 16) (w : World) :
    Calls Try.prog 47 #[.int .i64 k] w fun e w' => e = .returned (.int .i64 (fromN k : Nat)) ∧ w = w' := by
  have e1 : (k : Int).tmod 4 = (k : Int) % 4 := IntWalk.rem_in _ _ (by omega)
  go_enter Try.func47, Try.ntmps47
  go_wp2
  go_ret
  have e2 : ((fromN k : Nat) : Int) = ((k : Int) + 4 * ((k : Int) % 4)) % 16 := by unfold fromN; omega
  rw [e2]; exact ⟨rfl, rfl⟩
attribute [local irreducible] fromN backP

set_option maxRecDepth 100000 in
set_option maxHeartbeats 1000000 in
theorem Shift_any (f : Nat → Nat) (w : World) :
    Calls Try.prog 34 #[.agg (cellsOf .u8 (mk 16 f))] w fun e w' => e = .returned (.agg (cellsOf .u8 (mk 16 (shK f)))) ∧ Below w.heap.size w w' := by
  go_enter Try.func34, Try.ntmps34
  go_wp2
  go_loopw [5] (fun v5 wr => ∃ k : Nat, k ≤ 16 ∧ v5 = .int .i64 k ∧ IntBlk wr w.heap.size .u8 65 (mk 16 f) ∧ IntBlk wr (w.heap.size + 1) .u8 65 (mk 16 zeroK) ∧ IntBlk wr (w.heap.size + 1 + 1) .u8 65 (mk 16 (shTo f k)) ∧ Below w.heap.size w wr) (fun v5 _ => 16 - (intOf v5).toNat)
  case atStart => exact ⟨0, by omega, rfl, blk_first w .u8 _ (mk 16 f) _ _, blk_second w .u8 _ (mk 16 zeroK) _ _, by rw [shTo_start]; exact blk_third w .u8 _ (mk 16 zeroK) _ _, below_three w _ _ _⟩
  case round =>
    obtain ⟨k, hk, rfl, ha, hz, hd, hw⟩ := hrel
    have HA := Lib.hid ha
    have HZ := Lib.hid hz
    have HD := Lib.hid hd
    have HW := Lib.hid hw
    by_cases hlt : k < 16
    · have hx := fromN_lt k
      have c1 := ha.cell (i := fromN k) (by rw [mk_len]; exact hx)
      rw [mk_get hx] at c1
      have f1 := ha.free (fromN k)
      have c3 := hd.cell (i := k) (by rw [mk_len]; exact hlt)
      have f3 := hd.free k
      clear ha hz hd hw
      go_wp2_with (go_at_call 47; refine (from_any _ (by omega) _).mono ?_; rintro e w' ⟨rfl, rfl⟩)
      go_roundw
      case rel => exact ⟨k + 1, by omega, by go_num, HA.out.other (by show w.heap.size + 1 + 1 ≠ w.heap.size; omega) _, HZ.out.other (by show w.heap.size + 1 + 1 ≠ w.heap.size + 1; omega) _, by rw [← shTo_step]; exact HD.out.set k _, HW.out.setCell (by show w.heap.size ≤ w.heap.size + 1 + 1; omega) _⟩
      case measure => simp [intOf]; omega
    · obtain rfl : k = 16 := by omega
      clear ha hz hd hw
      go_wp2_with (first
        | (refine wpList_load_row rfl 65 _ rfl (w.heap.size + 1 + 1) rfl 65 (cellsOf .u8 (mk 16 (shK f))) (0, 0) _ (by rw [← shTo_end]; exact HD.out) keyUnder rfl (keySize _) ?_)
        | (refine wpList_store_row rfl 65 _ _ rfl (w.heap.size + 1) _ rfl rfl 65 (cellsOf .u8 (mk 16 zeroK)) HZ.out (keySize _) (by rw [cellsOf_size, cellsOf_size, mk_len, mk_len]) (cellsOf_one _ _) ?_))
      refine bodyPost_ret (results_cell_row rfl _ _ (w.heap.size + 1) 65 (cellsOf .u8 (mk 16 (shK f))) (0, 0) _ rfl (HZ.out.setRow .u8 (mk 16 (shK f))) keyUnder rfl (keySize _)) rfl ⟨rfl, below_setRow HW.out (by omega) _⟩

set_option maxRecDepth 100000 in
set_option maxHeartbeats 1000000 in
theorem Unshift_any (f : Nat → Nat) (hf : IsKey f) (w : World) :
    Calls Try.prog 45 #[.agg (cellsOf .u8 (mk 16 f))] w fun e w' => e = .returned (.agg (cellsOf .u8 (mk 16 (unK f)))) ∧ Below w.heap.size w w' := by
  go_enter Try.func45, Try.ntmps45
  go_wp2_with (refine wpList_load_row rfl 65 _ rfl w.heap.size rfl 65 (cellsOf .u8 (mk 16 f)) (0, 0) _ (((IntBlk.new w .u8 65 (mk 16 f)).alloc _).alloc _) keyUnder rfl (keySize f) ?_)
  go_loopw [7] (fun v7 wr => ∃ k : Nat, k ≤ 16 ∧ v7 = .int .i64 k ∧ IntBlk wr (w.heap.size + 1) .u8 65 (mk 16 zeroK) ∧ IntBlk wr (w.heap.size + 1 + 1) .u8 65 (mk 16 (unTo f k)) ∧ Below w.heap.size w wr) (fun v7 _ => 16 - (intOf v7).toNat)
  case atStart => exact ⟨0, by omega, rfl, blk_second w .u8 _ (mk 16 zeroK) _ _, by rw [unTo_start]; exact blk_third w .u8 _ (mk 16 zeroK) _ _, below_three w _ _ _⟩
  case round =>
    obtain ⟨k, hk, rfl, hz, hd, hw⟩ := hrel
    have HZ := Lib.hid hz
    have HD := Lib.hid hd
    have HW := Lib.hid hw
    by_cases hlt : k < 16
    · have hx := fromN_lt k
      have hb := hf k hlt
      have ki := key_index f hlt
      have c3 := hd.cell (i := fromN k) (by rw [mk_len]; exact hx)
      have f3 := hd.free (fromN k)
      clear hz hd hw
      go_wp2_with (go_at_call 47; refine (from_any _ (by omega) _).mono ?_; rintro e w' ⟨rfl, rfl⟩)
      go_roundw
      case rel => exact ⟨k + 1, by omega, by go_num, HZ.out.other (by show w.heap.size + 1 + 1 ≠ w.heap.size + 1; omega) _, by rw [← unTo_step f hlt]; exact HD.out.set (fromN k) _, HW.out.setCell (by show w.heap.size ≤ w.heap.size + 1 + 1; omega) _⟩
      case measure => simp [intOf]; omega
    · obtain rfl : k = 16 := by omega
      clear hz hd hw
      go_wp2_with (first
        | (refine wpList_load_row rfl 65 _ rfl (w.heap.size + 1 + 1) rfl 65 (cellsOf .u8 (mk 16 (unK f))) (0, 0) _ (by rw [← unTo_end]; exact HD.out) keyUnder rfl (keySize _) ?_)
        | (refine wpList_store_row rfl 65 _ _ rfl (w.heap.size + 1) _ rfl rfl 65 (cellsOf .u8 (mk 16 zeroK)) HZ.out (keySize _) (by rw [cellsOf_size, cellsOf_size, mk_len, mk_len]) (cellsOf_one _ _) ?_))
      refine bodyPost_ret (results_cell_row rfl _ _ (w.heap.size + 1) 65 (cellsOf .u8 (mk 16 (unK f))) (0, 0) _ rfl (HZ.out.setRow .u8 (mk 16 (unK f))) keyUnder rfl (keySize _)) rfl ⟨rfl, below_setRow HW.out (by omega) _⟩
end Go.Proofs.Ytghdeedglekphaa

/- The contracts of package cipher's multiply, Mix and Unmix: each answers the column that the plain functions say, and writes nothing that was there. Condition: the columns' bytes are bytes. -/
namespace Go.Proofs.Ytghdeedglekphaa
open Go.ChangeShapes Go.WideShapes Go.ChangeAt Go.RowKit

def IsWord (f : Nat → Nat) : Prop := ∀ i, i < 4 → f i < 256
/-- The sum of the first n products for byte k. -/
def mxS (f g : Nat → Nat) (k : Nat) : Nat → Nat
  | 0 => 0
  | n + 1 => mxS f g k n ^^^ mul (f n) (g ((n + 4 - k) % 4))
def mxK (f g : Nat → Nat) (k : Nat) : Nat := mxS f g k 4
def mxTo (f g : Nat → Nat) (k n : Nat) : Nat → Nat := fun j => if j < k then mxK f g j else if j = k then mxS f g k n else 0
theorem mxS_lt {f g : Nat → Nat} (hf : IsWord f) (k : Nat) : ∀ n, n ≤ 4 → mxS f g k n < 256
  | 0, _ => by unfold mxS; omega
  | n + 1, h => xor_lt (mxS_lt hf k n (by omega)) (mul_lt (hf n (by omega)))
theorem mxK_word {f g : Nat → Nat} (hf : IsWord f) : IsWord (mxK f g) := fun k _ => mxS_lt hf k 4 (by omega)
theorem mxTo_start (f g : Nat → Nat) : mk 4 (mxTo f g 0 0) = mk 4 zeroK := mk_ext fun j _ => by
  unfold mxTo zeroK; rw [if_neg (by omega)]; split <;> rfl
theorem mxTo_end (f g : Nat → Nat) : mk 4 (mxTo f g 4 0) = mk 4 (mxK f g) := mk_ext fun j hj => by unfold mxTo; rw [if_pos hj]
theorem mxTo_next (f g : Nat → Nat) (k : Nat) : mk 4 (mxTo f g k 4) = mk 4 (mxTo f g (k + 1) 0) := mk_ext fun j hj => by
  unfold mxTo
  by_cases e : j = k
  · subst e; rw [if_neg (by omega), if_pos rfl, if_pos (by omega)]; rfl
  · by_cases l : j < k
    · rw [if_pos l, if_pos (by omega)]
    · rw [if_neg l, if_neg e, if_neg (by omega)]; split <;> rfl
theorem mxTo_at (f g : Nat → Nat) (k n : Nat) : mxTo f g k n k = mxS f g k n := by unfold mxTo; rw [if_neg (by omega), if_pos rfl]
theorem mxTo_step (f g : Nat → Nat) (k n : Nat) {s v : Nat} (hs : mxS f g k n = s) (hv : mul (f n) (g ((n + 4 - k) % 4)) = v) : (mk 4 (mxTo f g k n)).set k ((s ^^^ v : Nat) : Int) = mk 4 (mxTo f g k (n + 1)) := by
  subst hs hv
  refine mk_set_is rfl fun j _ => ?_
  unfold mxTo
  by_cases e : j = k
  · subst e; rw [if_pos rfl, if_neg (by omega), if_pos rfl]; rfl
  · rw [if_neg e]
    by_cases l : j < k
    · rw [if_pos l, if_pos l]
    · rw [if_neg l, if_neg l, if_neg e, if_neg e]
theorem Mul_nat (x y : Nat) (hx : x < 256) (hy : y < 256) (w : World) :
    Calls Try.prog 59 #[.int .u8 (x : Int), .int .u8 (y : Int)] w fun e w' => e = .returned (.int .u8 (mul x y : Nat)) ∧ w' = w :=
  (Mul_any x y (by omega) (by omega) (by omega) (by omega) w).mono fun _ _ ⟨he, hw⟩ => ⟨by rw [he]; simp [mulI], hw.symm⟩
attribute [local irreducible] mul mxS

set_option maxRecDepth 100000 in
set_option maxHeartbeats 2000000 in
theorem multiply_any (f g : Nat → Nat) (hf : IsWord f) (hg : IsWord g) (w : World) :
    Calls Try.prog 49 #[.agg (cellsOf .u8 (mk 4 f)), .agg (cellsOf .u8 (mk 4 g))] w fun e w' => e = .returned (.agg (cellsOf .u8 (mk 4 (mxK f g)))) ∧ Below w.heap.size w w' := by
  go_enter Try.func49, Try.ntmps49
  go_wp2
  go_loopw [9] (fun v9 wr => ∃ k : Nat, k ≤ 4 ∧ v9 = .int .i64 k ∧ IntBlk wr w.heap.size .u8 87 (mk 4 f) ∧ IntBlk wr (w.heap.size + 1) .u8 87 (mk 4 g) ∧ IntBlk wr (w.heap.size + 1 + 1) .u8 87 (mk 4 zeroK) ∧ IntBlk wr (w.heap.size + 1 + 1 + 1) .u8 87 (mk 4 (mxTo f g k 0)) ∧ Below w.heap.size w wr) (fun v9 _ => 4 - (intOf v9).toNat)
  case atStart => exact ⟨0, by omega, rfl, (blk_first w .u8 _ (mk 4 f) _ _).alloc _, (blk_second w .u8 _ (mk 4 g) _ _).alloc _, (blk_third w .u8 _ (mk 4 zeroK) _ _).alloc _, by rw [mxTo_start]; exact blk_fourth w .u8 _ (mk 4 zeroK) _ _ _, below_four w _ _ _ _⟩
  case round =>
    obtain ⟨k, hk, rfl, ha, hb, hz, hd, hw⟩ := hrel
    have HA := Lib.hid ha
    have HB := Lib.hid hb
    have HZ := Lib.hid hz
    have HD := Lib.hid hd
    have HW := Lib.hid hw
    clear ha hb hz hd hw
    by_cases hlt : k < 4
    · have hr1 : decide ((k : Int) < 4) = true := by simp; omega
      go_wp2_with (refine wpList_load_row rfl 87 _ rfl w.heap.size rfl 87 (cellsOf .u8 (mk 4 f)) (0, 0) _ HA.out wordUnder rfl (wordSize f) ?_)
      go_loopw [13] (fun v13 wr => ∃ i : Nat, i ≤ 4 ∧ v13 = .int .i64 i ∧ IntBlk wr w.heap.size .u8 87 (mk 4 f) ∧ IntBlk wr (w.heap.size + 1) .u8 87 (mk 4 g) ∧ IntBlk wr (w.heap.size + 1 + 1) .u8 87 (mk 4 zeroK) ∧ IntBlk wr (w.heap.size + 1 + 1 + 1) .u8 87 (mk 4 (mxTo f g k i)) ∧ Below w.heap.size w wr) (fun v13 _ => 4 - (intOf v13).toNat)
      case atStart => exact ⟨0, by omega, rfl, HA.out, HB.out, HZ.out, HD.out, HW.out⟩
      case round =>
        clear HA HB HZ HD HW
        obtain ⟨i, hi, rfl, ha, hb, hz, hd, hw⟩ := hrel
        have HA := Lib.hid ha
        have HB := Lib.hid hb
        have HZ := Lib.hid hz
        have HD := Lib.hid hd
        have HW := Lib.hid hw
        by_cases hli : i < 4
        · have hp : (i + 4 - k) % 4 < 4 := by omega
          have c1 := hd.cell (i := k) (by rw [mk_len]; exact hlt)
          rw [mk_get hlt, mxTo_at] at c1
          have f1 := hd.free k
          have c2 := hb.cell (i := (i + 4 - k) % 4) (by rw [mk_len]; exact hp)
          rw [mk_get hp] at c2
          have f2 := hb.free ((i + 4 - k) % 4)
          have ki := word_index f hli
          have hx := hf i hli
          have hy := hg _ hp
          have hs := mxS_lt (g := g) hf k i (by omega)
          have hm := mul_lt (b := g ((i + 4 - k) % 4)) hx
          have CM := Lib.hid (fun W => Mul_nat _ _ hx hy W)
          have hv := mxTo_step f g k i rfl rfl
          have bx := bits_xor_u8 hs hm
          generalize mxS f g k i = s at *
          generalize mul (f i) (g ((i + 4 - k) % 4)) = m at *
          have HV := Lib.hid hv
          clear ha hb hz hd hw hv
          have e1 : (k : Int) < 4 := by omega
          have e2 : (0 : Int) ≤ k := by omega
          have e3 : (i : Int) < 4 := by omega
          have e4 : (0 : Int) ≤ i := by omega
          have q1 : IntKind.i64.wrap ((i : Int) - k) = (i : Int) - k := IntWalk.i64_in _ (by omega)
          have q2 : IntKind.i64.wrap ((i : Int) - k + 4) = (i : Int) - k + 4 := IntWalk.i64_in _ (by omega)
          have q3 : ((i : Int) - k + 4).tmod 4 = ((i : Int) - k) % 4 := by rw [IntWalk.rem_in _ _ (by omega)]; omega
          have q4 : (0 : Int) ≤ ((i : Int) - k) % 4 := by omega
          have q5 : ((i : Int) - k) % 4 < 4 := by omega
          have q6 : (((i : Int) - k) % 4).toNat = (i + 4 - k) % 4 := by omega
          go_wp2
          refine wp_region_still_tail 14 (by kernel_rfl) (by kernel_rfl) ?_
          simp only [List.take_succ_cons, List.take_zero, List.drop_succ_cons, List.drop_zero]
          change wpStill _ _ wr.drew (fun a' => wpList _ _ _ _ a' wr.drew) _ _
          iterate 11 still_step
          refine wpStill_step (fun K hK => ?_)
          go_simp
          refine ⟨_, CM.out _, hK _ ?_⟩
          clear hK K
          iterate 2 still_step
          refine wpStill_nil ?_
          go_wp2
          go_roundw
          case rel => exact ⟨i + 1, by omega, by go_num, (HA.out.other (by show w.heap.size + 1 + 1 + 1 ≠ w.heap.size; omega) _).drew, (HB.out.other (by show w.heap.size + 1 + 1 + 1 ≠ w.heap.size + 1; omega) _).drew, (HZ.out.other (by show w.heap.size + 1 + 1 + 1 ≠ w.heap.size + 1 + 1; omega) _).drew, by rw [← HV.out]; exact (HD.out.set k _).drew, (HW.out.setCell (by show w.heap.size ≤ w.heap.size + 1 + 1 + 1; omega) _).drew⟩
          case measure => simp [intOf]; omega
        · obtain rfl : i = 4 := by omega
          clear ha hb hz hd hw
          go_wp2
          go_roundw
          case rel => exact ⟨k + 1, by omega, by go_num, HA.out, HB.out, HZ.out, by rw [← mxTo_next]; exact HD.out, HW.out⟩
          case measure => simp [intOf]; omega
    · obtain rfl : k = 4 := by omega
      go_wp2_with (first
        | (refine wpList_load_row rfl 87 _ rfl (w.heap.size + 1 + 1 + 1) rfl 87 (cellsOf .u8 (mk 4 (mxK f g))) (0, 0) _ (by rw [← mxTo_end]; exact HD.out) wordUnder rfl (wordSize _) ?_)
        | (refine wpList_store_row rfl 87 _ _ rfl (w.heap.size + 1 + 1) _ rfl rfl 87 (cellsOf .u8 (mk 4 zeroK)) HZ.out (wordSize _) (by rw [cellsOf_size, cellsOf_size, mk_len, mk_len]) (cellsOf_one _ _) ?_))
      refine bodyPost_ret (results_cell_row rfl _ _ (w.heap.size + 1 + 1) 87 (cellsOf .u8 (mk 4 (mxK f g))) (0, 0) _ rfl (HZ.out.setRow .u8 (mk 4 (mxK f g))) wordUnder rfl (wordSize _)) rfl ⟨rfl, below_setRow HW.out (by omega) _⟩

/-- The factors. -/
def facM : Nat → Nat := fun i => if i = 0 then 2 else if i = 1 then 3 else 1
def facU : Nat → Nat := fun i => if i = 0 then 14 else if i = 1 then 11 else if i = 2 then 13 else 9
theorem facM_word : IsWord facM := fun i _ => by unfold facM; (repeat' split) <;> omega
theorem facU_word : IsWord facU := fun i _ => by unfold facU; (repeat' split) <;> omega
def mixK (f : Nat → Nat) : Nat → Nat := mxK f facM
def unmK (f : Nat → Nat) : Nat → Nat := mxK f facU
theorem mixK_word {f : Nat → Nat} (hf : IsWord f) : IsWord (mixK f) := mxK_word hf
theorem unmK_word {f : Nat → Nat} (hf : IsWord f) : IsWord (unmK f) := mxK_word hf

set_option maxRecDepth 100000 in
set_option maxHeartbeats 1000000 in
theorem Mix_any (f : Nat → Nat) (hf : IsWord f) (w : World) :
    Calls Try.prog 37 #[.agg (cellsOf .u8 (mk 4 f))] w fun e w' => e = .returned (.agg (cellsOf .u8 (mk 4 (mixK f)))) ∧ Below w.heap.size w w' := by
  go_enter Try.func37, Try.ntmps37
  go_wp2_with (first
    | (refine wpList_load_row rfl 87 _ rfl w.heap.size rfl 87 (cellsOf .u8 (mk 4 f)) (0, 0) _ ((IntBlk.new w .u8 87 (mk 4 f)).alloc _) wordUnder rfl (wordSize f) ?_)
    | fail)
  refine (multiply_any f facM hf facM_word _).mono ?_
  rintro e w1 ⟨rfl, hb⟩
  have hz := (blk_two w .u8 87 (mk 4 zeroK) (.cells (cellsOf .u8 (mk 4 f)) 87)).below hb (by simp)
  have hw := (below_two w _ _).trans (hb.mono (by simp; omega))
  have HZ := Lib.hid hz
  have HW := Lib.hid hw
  clear hz hw hb
  go_wp2_with (refine wpList_store_row rfl 87 _ _ rfl (w.heap.size + 1) _ rfl rfl 87 (cellsOf .u8 (mk 4 zeroK)) HZ.out (wordSize _) (by rw [cellsOf_size, cellsOf_size, mk_len, mk_len]) (cellsOf_one _ _) ?_)
  refine bodyPost_ret (results_cell_row rfl _ _ (w.heap.size + 1) 87 (cellsOf .u8 (mk 4 (mixK f))) (0, 0) _ rfl (HZ.out.setRow .u8 (mk 4 (mixK f))) wordUnder rfl (wordSize _)) rfl ⟨rfl, below_setRow HW.out (by omega) _⟩

set_option maxRecDepth 100000 in
set_option maxHeartbeats 1000000 in
theorem Unmix_any (f : Nat → Nat) (hf : IsWord f) (w : World) :
    Calls Try.prog 43 #[.agg (cellsOf .u8 (mk 4 f))] w fun e w' => e = .returned (.agg (cellsOf .u8 (mk 4 (unmK f)))) ∧ Below w.heap.size w w' := by
  go_enter Try.func43, Try.ntmps43
  go_wp2_with (first
    | (refine wpList_load_row rfl 87 _ rfl w.heap.size rfl 87 (cellsOf .u8 (mk 4 f)) (0, 0) _ ((IntBlk.new w .u8 87 (mk 4 f)).alloc _) wordUnder rfl (wordSize f) ?_)
    | fail)
  refine (multiply_any f facU hf facU_word _).mono ?_
  rintro e w1 ⟨rfl, hb⟩
  have hz := (blk_two w .u8 87 (mk 4 zeroK) (.cells (cellsOf .u8 (mk 4 f)) 87)).below hb (by simp)
  have hw := (below_two w _ _).trans (hb.mono (by simp; omega))
  have HZ := Lib.hid hz
  have HW := Lib.hid hw
  clear hz hw hb
  go_wp2_with (refine wpList_store_row rfl 87 _ _ rfl (w.heap.size + 1) _ rfl rfl 87 (cellsOf .u8 (mk 4 zeroK)) HZ.out (wordSize _) (by rw [cellsOf_size, cellsOf_size, mk_len, mk_len]) (cellsOf_one _ _) ?_)
  refine bodyPost_ret (results_cell_row rfl _ _ (w.heap.size + 1) 87 (cellsOf .u8 (mk 4 (unmK f))) (0, 0) _ rfl (HZ.out.setRow .u8 (mk 4 (unmK f))) wordUnder rfl (wordSize _)) rfl ⟨rfl, below_setRow HW.out (by omega) _⟩
end Go.Proofs.Ytghdeedglekphaa

/- The contract of package cipher's columns, with Mix and with Unmix: each column of the key is changed by itself, and nothing is written that was there. Condition: the key's bytes are bytes. -/
namespace Go.Proofs.Ytghdeedglekphaa
open Go.ChangeShapes Go.WideShapes Go.ChangeAt Go.RowKit

/-- Column c of a key. -/
def colAt (f : Nat → Nat) (c : Nat) : Nat → Nat := fun i => f (4 * c + i)
def colK (m : (Nat → Nat) → Nat → Nat) (f : Nat → Nat) (j : Nat) : Nat := m (colAt f (j / 4)) (j % 4)
def colTo (m : (Nat → Nat) → Nat → Nat) (f : Nat → Nat) (c : Nat) : Nat → Nat := fun j => if j < 4 * c then colK m f j else f j
theorem colAt_word {f : Nat → Nat} (h : IsKey f) {c : Nat} (hc : c < 4) : IsWord (colAt f c) := fun i hi => h _ (by omega)
theorem colTo_start (m : (Nat → Nat) → Nat → Nat) (f : Nat → Nat) : mk 16 (colTo m f 0) = mk 16 f := mk_ext fun j _ => by unfold colTo; rw [if_neg (by omega)]
theorem colTo_end (m : (Nat → Nat) → Nat → Nat) (f : Nat → Nat) : mk 16 (colTo m f 4) = mk 16 (colK m f) := mk_ext fun j hj => by unfold colTo; rw [if_pos (by omega)]
theorem colTo_at (m : (Nat → Nat) → Nat → Nat) (f : Nat → Nat) (c : Nat) : (fun i => colTo m f c (4 * c + i)) = colAt f c := by
  funext i; unfold colTo; rw [if_neg (by omega)]; rfl
theorem colTo_step (m : (Nat → Nat) → Nat → Nat) (f : Nat → Nat) (c : Nat) : mk 16 (put (colTo m f c) (4 * c) 4 (m (colAt f c))) = mk 16 (colTo m f (c + 1)) := mk_ext fun j hj => by
  unfold put colTo
  by_cases h : 4 * c ≤ j ∧ j < 4 * c + 4
  · rw [if_pos h, if_pos (by omega)]; unfold colK; rw [show j / 4 = c by omega, show j % 4 = j - 4 * c by omega]
  · rw [if_neg h]
    by_cases l : j < 4 * c
    · rw [if_pos l, if_pos (by omega)]
    · rw [if_neg l, if_neg (by omega)]
theorem colTo_steps (m : (Nat → Nat) → Nat → Nat) (f : Nat → Nat) {c n : Nat} (hn : n = 4 * c) : mk 16 (put (colTo m f c) n 4 (m (colAt f c))) = mk 16 (colTo m f (c + 1)) := by subst hn; exact colTo_step m f c
theorem put_all (n : Nat) (F g : Nat → Nat) : mk n (put F 0 n g) = mk n g := mk_ext fun j hj => by unfold put; rw [if_pos (by omega), Nat.sub_zero]
theorem mixCol_key {f : Nat → Nat} (h : IsKey f) : IsKey (colK mixK f) := fun j hj => mixK_word (colAt_word h (by omega)) _ (by omega)
theorem unmCol_key {f : Nat → Nat} (h : IsKey f) : IsKey (colK unmK f) := fun j hj => unmK_word (colAt_word h (by omega)) _ (by omega)
attribute [local irreducible] mixK unmK

set_option maxRecDepth 100000 in
set_option maxHeartbeats 2000000 in
theorem mixCols_any (f : Nat → Nat) (hf : IsKey f) (w : World) :
    Calls Try.prog 36 #[.agg (cellsOf .u8 (mk 16 f)), .func (.func 37) #[] #[]] w fun e w' => e = .returned (.agg (cellsOf .u8 (mk 16 (colK mixK f)))) ∧ Below w.heap.size w w' := by
  go_enter Try.func36, Try.ntmps36
  go_wp2
  go_loopw [5] (fun v5 wr => ∃ c n : Nat, c ≤ 4 ∧ n = 4 * c ∧ v5 = .int .i64 n ∧ IntBlk wr w.heap.size .u8 65 (mk 16 (colTo mixK f c)) ∧ IntBlk wr (w.heap.size + 1) .u8 65 (mk 16 zeroK) ∧ Below w.heap.size w wr) (fun v5 _ => 16 - (intOf v5).toNat)
  case atStart => exact ⟨0, 0, by omega, rfl, rfl, by rw [colTo_start]; exact (IntBlk.new w .u8 65 (mk 16 f)).alloc _, blk_two w .u8 65 (mk 16 zeroK) _, below_two w _ _⟩
  case round =>
    obtain ⟨c, n, hc, hn, rfl, ha, hz, hw⟩ := hrel
    have hs : w.heap.size + 1 < wr.heap.size := hz.lt
    have HA := Lib.hid ha
    have HZ := Lib.hid hz
    have HW := Lib.hid hw
    have HN := Lib.hid hn
    by_cases hlt : n < 16
    · have hc4 : c < 4 := by omega
      have CA : Cells (wr.alloc (.cells (cellsOf .u8 (mk 4 zeroK)) 87)).drew w.heap.size n 4 (colAt f c) := by
        have := ((ha.alloc (.cells (cellsOf .u8 (mk 4 zeroK)) 87)).drew).cells (o := n) (n := 4) (by omega)
        rw [hn] at this ⊢
        rw [colTo_at] at this; exact this
      have BD := (IntBlk.new wr .u8 87 (mk 4 zeroK)).drew
      have BA := (ha.alloc (.cells (cellsOf .u8 (mk 4 zeroK)) 87)).drew
      have BZ := (hz.alloc (.cells (cellsOf .u8 (mk 4 zeroK)) 87)).drew
      have BW := (hw.alloc (by omega) (.cells (cellsOf .u8 (mk 4 zeroK)) 87)).drew
      have hn12 : 4 ≤ 16 - n := by omega
      have hcol := colAt_word hf hc4
      clear ha hz hw hn
      go_wp2
      have e1 : (n : Int) < 16 := by omega
      have e2 : (0 : Int) ≤ n := by omega
      have e3 : (n : Int) ≤ 16 := by omega
      have e4 : ¬ (16 = n) := by omega
      refine wp_region_still_tail 3 (by kernel_rfl) (by kernel_rfl) ?_
      simp only [List.take_succ_cons, List.take_zero, List.drop_succ_cons, List.drop_zero]
      iterate 3 still_step
      refine wpStill_nil ?_
      change wpList _ _ _ _ _ (wr.alloc (.cells (cellsOf .u8 (mk 4 zeroK)) 87)).drew
      generalize (wr.alloc (.cells (cellsOf .u8 (mk 4 zeroK)) 87)).drew = w1 at *
      refine wpList_copy_part rfl _ _ _ _ rfl 5 bytesUnder byteInfo wr.heap.size 0 4 4 w.heap.size n (16 - n) (16 - n) 4 4 zeroK (colAt f c) rfl rfl 87 BD (by omega) (Nat.min_eq_right hn12).symm CA ?_
      have BD2 := BD.setRow .u8 (mk 4 (put zeroK 0 4 (colAt f c)))
      rw [put_all] at BD2 ⊢
      have BA2 := BA.otherRow (C := wr.heap.size) (by omega) (cellsOf .u8 (mk 4 (colAt f c)))
      have BZ2 := BZ.otherRow (C := wr.heap.size) (by omega) (cellsOf .u8 (mk 4 (colAt f c)))
      have BW2 := below_setRow BW (g := wr.heap.size) (by omega) (cellsOf .u8 (mk 4 (colAt f c)))
      generalize w1.setRow wr.heap.size (cellsOf .u8 (mk 4 (colAt f c))) = w2 at *
      have HD2 := Lib.hid BD2
      clear CA BD BA BZ BW BD2 HA HZ HW
      go_wp2_with (first
        | (refine wpList_load_row rfl 87 _ rfl wr.heap.size rfl 87 (cellsOf .u8 (mk 4 (colAt f c))) (0, 0) _ HD2.out wordUnder rfl (wordSize _) ?_)
        | fail)
      refine (Mix_any (colAt f c) hcol _).mono ?_
      rintro e w3 ⟨rfl, hb3⟩
      have HD3 := Lib.hid (HD2.out.below hb3 HD2.out.lt)
      have HA3 := Lib.hid (BA2.below hb3 BA2.lt)
      have HZ3 := Lib.hid (BZ2.below hb3 BZ2.lt)
      have HW3 := Lib.hid (BW2.trans (hb3.mono BW2.size))
      clear hb3 HD2 BA2 BZ2 BW2
      go_wp2_with (first
        | (refine store_row_on rfl 87 _ _ rfl rfl wr.heap.size (cellsOf .u8 (mk 4 (mixK (colAt f c)))) rfl rfl 87 (cellsOf .u8 (mk 4 (colAt f c))) HD3.out (wordSize _) (by rw [cellsOf_size, cellsOf_size, mk_len, mk_len]) (cellsOf_one _ _) ?_)
        | fail)
      have BD4 := (HD3.out.setRow .u8 (mk 4 (mixK (colAt f c)))).drew
      have BA4 := (HA3.out.otherRow (C := wr.heap.size) (by omega) (cellsOf .u8 (mk 4 (mixK (colAt f c))))).drew
      have BZ4 := (HZ3.out.otherRow (C := wr.heap.size) (by omega) (cellsOf .u8 (mk 4 (mixK (colAt f c))))).drew
      have BW4 := (below_setRow HW3.out (g := wr.heap.size) (by omega) (cellsOf .u8 (mk 4 (mixK (colAt f c))))).drew
      refine wp_region_still_tail 3 (by kernel_rfl) (by kernel_rfl) ?_
      simp only [List.take_succ_cons, List.take_zero, List.drop_succ_cons, List.drop_zero]
      iterate 3 still_step
      refine wpStill_nil ?_
      change wpList _ _ _ _ _ (w3.setRow wr.heap.size (cellsOf .u8 (mk 4 (mixK (colAt f c))))).drew
      generalize (w3.setRow wr.heap.size (cellsOf .u8 (mk 4 (mixK (colAt f c))))).drew = w4 at *
      have CD : Cells w4 wr.heap.size 0 4 (mixK (colAt f c)) := by
        have := BD4.cells (o := 0) (n := 4) (by omega)
        simpa using this
      refine wpList_copy_part rfl _ _ _ _ rfl 5 bytesUnder byteInfo w.heap.size n (16 - n) (16 - n) wr.heap.size 0 4 4 4 16 (colTo mixK f c) (mixK (colAt f c)) rfl rfl 65 BA4 (by omega) (Nat.min_eq_left hn12).symm CD ?_
      have BA5 := BA4.setRow .u8 (mk 16 (put (colTo mixK f c) n 4 (mixK (colAt f c))))
      rw [colTo_steps _ _ HN.out] at BA5
      rw [colTo_steps _ _ HN.out]
      have BZ5 := BZ4.otherRow (C := w.heap.size) (by omega) (cellsOf .u8 (mk 16 (colTo mixK f (c + 1))))
      have BW5 := below_setRow BW4 (g := w.heap.size) (by omega) (cellsOf .u8 (mk 16 (colTo mixK f (c + 1))))
      clear BD4 BA4 BZ4 BW4 CD HD3 HA3 HZ3 HW3
      generalize w4.setRow w.heap.size (cellsOf .u8 (mk 16 (colTo mixK f (c + 1)))) = w5 at *
      have HA5 := Lib.hid BA5
      have HZ5 := Lib.hid BZ5
      have HW5 := Lib.hid BW5
      clear BA5 BZ5 BW5
      go_wp2
      go_roundw
      case rel => exact ⟨c + 1, n + 4, by omega, by have := HN.out; omega, by go_num, HA5.out, HZ5.out, HW5.out⟩
      case measure => simp [intOf]; omega
    · obtain rfl : c = 4 := by omega
      obtain rfl : n = 16 := by omega
      clear ha hz hw hn
      go_wp2_with (first
        | (refine wpList_load_row rfl 65 _ rfl w.heap.size rfl 65 (cellsOf .u8 (mk 16 (colK mixK f))) (0, 0) _ (by rw [← colTo_end]; exact HA.out) keyUnder rfl (keySize _) ?_)
        | (refine wpList_store_row rfl 65 _ _ rfl (w.heap.size + 1) _ rfl rfl 65 (cellsOf .u8 (mk 16 zeroK)) HZ.out (keySize _) (by rw [cellsOf_size, cellsOf_size, mk_len, mk_len]) (cellsOf_one _ _) ?_))
      refine bodyPost_ret (results_cell_row rfl _ _ (w.heap.size + 1) 65 (cellsOf .u8 (mk 16 (colK mixK f))) (0, 0) _ rfl (HZ.out.setRow .u8 (mk 16 (colK mixK f))) keyUnder rfl (keySize _)) rfl ⟨rfl, below_setRow HW.out (by omega) _⟩

set_option maxRecDepth 100000 in
set_option maxHeartbeats 2000000 in
theorem unmCols_any (f : Nat → Nat) (hf : IsKey f) (w : World) :
    Calls Try.prog 36 #[.agg (cellsOf .u8 (mk 16 f)), .func (.func 43) #[] #[]] w fun e w' => e = .returned (.agg (cellsOf .u8 (mk 16 (colK unmK f)))) ∧ Below w.heap.size w w' := by
  go_enter Try.func36, Try.ntmps36
  go_wp2
  go_loopw [5] (fun v5 wr => ∃ c n : Nat, c ≤ 4 ∧ n = 4 * c ∧ v5 = .int .i64 n ∧ IntBlk wr w.heap.size .u8 65 (mk 16 (colTo unmK f c)) ∧ IntBlk wr (w.heap.size + 1) .u8 65 (mk 16 zeroK) ∧ Below w.heap.size w wr) (fun v5 _ => 16 - (intOf v5).toNat)
  case atStart => exact ⟨0, 0, by omega, rfl, rfl, by rw [colTo_start]; exact (IntBlk.new w .u8 65 (mk 16 f)).alloc _, blk_two w .u8 65 (mk 16 zeroK) _, below_two w _ _⟩
  case round =>
    obtain ⟨c, n, hc, hn, rfl, ha, hz, hw⟩ := hrel
    have hs : w.heap.size + 1 < wr.heap.size := hz.lt
    have HA := Lib.hid ha
    have HZ := Lib.hid hz
    have HW := Lib.hid hw
    have HN := Lib.hid hn
    by_cases hlt : n < 16
    · have hc4 : c < 4 := by omega
      have CA : Cells (wr.alloc (.cells (cellsOf .u8 (mk 4 zeroK)) 87)).drew w.heap.size n 4 (colAt f c) := by
        have := ((ha.alloc (.cells (cellsOf .u8 (mk 4 zeroK)) 87)).drew).cells (o := n) (n := 4) (by omega)
        rw [hn] at this ⊢
        rw [colTo_at] at this; exact this
      have BD := (IntBlk.new wr .u8 87 (mk 4 zeroK)).drew
      have BA := (ha.alloc (.cells (cellsOf .u8 (mk 4 zeroK)) 87)).drew
      have BZ := (hz.alloc (.cells (cellsOf .u8 (mk 4 zeroK)) 87)).drew
      have BW := (hw.alloc (by omega) (.cells (cellsOf .u8 (mk 4 zeroK)) 87)).drew
      have hn12 : 4 ≤ 16 - n := by omega
      have hcol := colAt_word hf hc4
      clear ha hz hw hn
      go_wp2
      have e1 : (n : Int) < 16 := by omega
      have e2 : (0 : Int) ≤ n := by omega
      have e3 : (n : Int) ≤ 16 := by omega
      have e4 : ¬ (16 = n) := by omega
      refine wp_region_still_tail 3 (by kernel_rfl) (by kernel_rfl) ?_
      simp only [List.take_succ_cons, List.take_zero, List.drop_succ_cons, List.drop_zero]
      iterate 3 still_step
      refine wpStill_nil ?_
      change wpList _ _ _ _ _ (wr.alloc (.cells (cellsOf .u8 (mk 4 zeroK)) 87)).drew
      generalize (wr.alloc (.cells (cellsOf .u8 (mk 4 zeroK)) 87)).drew = w1 at *
      refine wpList_copy_part rfl _ _ _ _ rfl 5 bytesUnder byteInfo wr.heap.size 0 4 4 w.heap.size n (16 - n) (16 - n) 4 4 zeroK (colAt f c) rfl rfl 87 BD (by omega) (Nat.min_eq_right hn12).symm CA ?_
      have BD2 := BD.setRow .u8 (mk 4 (put zeroK 0 4 (colAt f c)))
      rw [put_all] at BD2 ⊢
      have BA2 := BA.otherRow (C := wr.heap.size) (by omega) (cellsOf .u8 (mk 4 (colAt f c)))
      have BZ2 := BZ.otherRow (C := wr.heap.size) (by omega) (cellsOf .u8 (mk 4 (colAt f c)))
      have BW2 := below_setRow BW (g := wr.heap.size) (by omega) (cellsOf .u8 (mk 4 (colAt f c)))
      generalize w1.setRow wr.heap.size (cellsOf .u8 (mk 4 (colAt f c))) = w2 at *
      have HD2 := Lib.hid BD2
      clear CA BD BA BZ BW BD2 HA HZ HW
      go_wp2_with (first
        | (refine wpList_load_row rfl 87 _ rfl wr.heap.size rfl 87 (cellsOf .u8 (mk 4 (colAt f c))) (0, 0) _ HD2.out wordUnder rfl (wordSize _) ?_)
        | fail)
      refine (Unmix_any (colAt f c) hcol _).mono ?_
      rintro e w3 ⟨rfl, hb3⟩
      have HD3 := Lib.hid (HD2.out.below hb3 HD2.out.lt)
      have HA3 := Lib.hid (BA2.below hb3 BA2.lt)
      have HZ3 := Lib.hid (BZ2.below hb3 BZ2.lt)
      have HW3 := Lib.hid (BW2.trans (hb3.mono BW2.size))
      clear hb3 HD2 BA2 BZ2 BW2
      go_wp2_with (first
        | (refine store_row_on rfl 87 _ _ rfl rfl wr.heap.size (cellsOf .u8 (mk 4 (unmK (colAt f c)))) rfl rfl 87 (cellsOf .u8 (mk 4 (colAt f c))) HD3.out (wordSize _) (by rw [cellsOf_size, cellsOf_size, mk_len, mk_len]) (cellsOf_one _ _) ?_)
        | fail)
      have BD4 := (HD3.out.setRow .u8 (mk 4 (unmK (colAt f c)))).drew
      have BA4 := (HA3.out.otherRow (C := wr.heap.size) (by omega) (cellsOf .u8 (mk 4 (unmK (colAt f c))))).drew
      have BZ4 := (HZ3.out.otherRow (C := wr.heap.size) (by omega) (cellsOf .u8 (mk 4 (unmK (colAt f c))))).drew
      have BW4 := (below_setRow HW3.out (g := wr.heap.size) (by omega) (cellsOf .u8 (mk 4 (unmK (colAt f c))))).drew
      refine wp_region_still_tail 3 (by kernel_rfl) (by kernel_rfl) ?_
      simp only [List.take_succ_cons, List.take_zero, List.drop_succ_cons, List.drop_zero]
      iterate 3 still_step
      refine wpStill_nil ?_
      change wpList _ _ _ _ _ (w3.setRow wr.heap.size (cellsOf .u8 (mk 4 (unmK (colAt f c))))).drew
      generalize (w3.setRow wr.heap.size (cellsOf .u8 (mk 4 (unmK (colAt f c))))).drew = w4 at *
      have CD : Cells w4 wr.heap.size 0 4 (unmK (colAt f c)) := by
        have := BD4.cells (o := 0) (n := 4) (by omega)
        simpa using this
      refine wpList_copy_part rfl _ _ _ _ rfl 5 bytesUnder byteInfo w.heap.size n (16 - n) (16 - n) wr.heap.size 0 4 4 4 16 (colTo unmK f c) (unmK (colAt f c)) rfl rfl 65 BA4 (by omega) (Nat.min_eq_left hn12).symm CD ?_
      have BA5 := BA4.setRow .u8 (mk 16 (put (colTo unmK f c) n 4 (unmK (colAt f c))))
      rw [colTo_steps _ _ HN.out] at BA5
      rw [colTo_steps _ _ HN.out]
      have BZ5 := BZ4.otherRow (C := w.heap.size) (by omega) (cellsOf .u8 (mk 16 (colTo unmK f (c + 1))))
      have BW5 := below_setRow BW4 (g := w.heap.size) (by omega) (cellsOf .u8 (mk 16 (colTo unmK f (c + 1))))
      clear BD4 BA4 BZ4 BW4 CD HD3 HA3 HZ3 HW3
      generalize w4.setRow w.heap.size (cellsOf .u8 (mk 16 (colTo unmK f (c + 1)))) = w5 at *
      have HA5 := Lib.hid BA5
      have HZ5 := Lib.hid BZ5
      have HW5 := Lib.hid BW5
      clear BA5 BZ5 BW5
      go_wp2
      go_roundw
      case rel => exact ⟨c + 1, n + 4, by omega, by have := HN.out; omega, by go_num, HA5.out, HZ5.out, HW5.out⟩
      case measure => simp [intOf]; omega
    · obtain rfl : c = 4 := by omega
      obtain rfl : n = 16 := by omega
      clear ha hz hw hn
      go_wp2_with (first
        | (refine wpList_load_row rfl 65 _ rfl w.heap.size rfl 65 (cellsOf .u8 (mk 16 (colK unmK f))) (0, 0) _ (by rw [← colTo_end]; exact HA.out) keyUnder rfl (keySize _) ?_)
        | (refine wpList_store_row rfl 65 _ _ rfl (w.heap.size + 1) _ rfl rfl 65 (cellsOf .u8 (mk 16 zeroK)) HZ.out (keySize _) (by rw [cellsOf_size, cellsOf_size, mk_len, mk_len]) (cellsOf_one _ _) ?_))
      refine bodyPost_ret (results_cell_row rfl _ _ (w.heap.size + 1) 65 (cellsOf .u8 (mk 16 (colK unmK f))) (0, 0) _ rfl (HZ.out.setRow .u8 (mk 16 (colK unmK f))) keyUnder rfl (keySize _)) rfl ⟨rfl, below_setRow HW.out (by omega) _⟩

end Go.Proofs.Ytghdeedglekphaa

/- The contracts of package cipher's add: each answers the exclusive or of its two arguments, and writes nothing that was there. Condition: the arguments' bytes are bytes. -/
namespace Go.Proofs.Ytghdeedglekphaa
open Go.ChangeShapes Go.WideShapes Go.ChangeAt Go.RowKit

/-- The first k bytes are summed. -/
def xsTo (f g : Nat → Nat) (k : Nat) : Nat → Nat := fun j => if j < k then xorK f g j else f j
theorem xsTo_start (n : Nat) (f g : Nat → Nat) : mk n (xsTo f g 0) = mk n f := mk_ext fun j _ => by unfold xsTo; rw [if_neg (by omega)]
theorem xsTo_end (n : Nat) (f g : Nat → Nat) : mk n (xsTo f g n) = mk n (xorK f g) := mk_ext fun j hj => by unfold xsTo; rw [if_pos hj]
theorem xsTo_at (f g : Nat → Nat) (k : Nat) : xsTo f g k k = f k := by unfold xsTo; rw [if_neg (by omega)]
theorem xsTo_step (n : Nat) (f g : Nat → Nat) (k : Nat) : (mk n (xsTo f g k)).set k (xorK f g k : Nat) = mk n (xsTo f g (k + 1)) := by
  refine mk_set_is rfl fun j _ => ?_
  unfold xsTo
  by_cases e : j = k
  · subst e; rw [if_pos rfl, if_pos (by omega)]
  · rw [if_neg e]
    by_cases l : j < k
    · rw [if_pos l, if_pos (by omega)]
    · rw [if_neg l, if_neg (by omega)]

set_option maxRecDepth 100000 in
set_option maxHeartbeats 1000000 in
theorem add_any (f g : Nat → Nat) (hf : IsWord f) (hg : IsWord g) (w : World) :
    Calls Try.prog 55 #[.agg (cellsOf .u8 (mk 4 f)), .agg (cellsOf .u8 (mk 4 g))] w fun e w' => e = .returned (.agg (cellsOf .u8 (mk 4 (xorK f g)))) ∧ Below w.heap.size w w' := by
  go_enter Try.func55, Try.ntmps55
  go_wp2
  go_loopw [6] (fun v6 wr => ∃ k : Nat, k ≤ 4 ∧ v6 = .int .i64 k ∧ IntBlk wr w.heap.size .u8 87 (mk 4 (xsTo f g k)) ∧ IntBlk wr (w.heap.size + 1) .u8 87 (mk 4 g) ∧ IntBlk wr (w.heap.size + 1 + 1) .u8 87 (mk 4 zeroK) ∧ Below w.heap.size w wr) (fun v6 _ => 4 - (intOf v6).toNat)
  case atStart => exact ⟨0, by omega, rfl, by rw [xsTo_start]; exact blk_first w .u8 _ (mk 4 f) _ _, blk_second w .u8 _ (mk 4 g) _ _, blk_third w .u8 _ (mk 4 zeroK) _ _, below_three w _ _ _⟩
  case round =>
    obtain ⟨k, hk, rfl, ha, hb, hz, hw⟩ := hrel
    have HA := Lib.hid ha
    have HB := Lib.hid hb
    have HZ := Lib.hid hz
    have HW := Lib.hid hw
    by_cases hlt : k < 4
    · have c1 := ha.cell (i := k) (by rw [mk_len]; exact hlt)
      have c2 := hb.cell (i := k) (by rw [mk_len]; exact hlt)
      rw [mk_get hlt] at c1 c2
      rw [xsTo_at] at c1
      have f1 := ha.free k
      have f2 := hb.free k
      have hx := hf k hlt
      have hy := hg k hlt
      have HV := Lib.hid (xorK_bits (f := f) (g := g) hx hy)
      clear ha hb hz hw
      go_wp2
      have e1 : (k : Int) < 4 := by omega
      have e2 : (0 : Int) ≤ k := by omega
      refine wp_region_still_tail 8 (by kernel_rfl) (by kernel_rfl) ?_
      simp only [List.take_succ_cons, List.take_zero, List.drop_succ_cons, List.drop_zero]
      change wpStill _ _ wr.drew (fun a' => wpList _ _ _ _ a' wr.drew) _ _
      iterate 8 still_step
      refine wpStill_nil ?_
      go_wp2
      go_roundw
      case rel => exact ⟨k + 1, by omega, by go_num, by rw [HV.out, ← xsTo_step]; exact (HA.out.set k _).drew, (HB.out.other (by show w.heap.size ≠ w.heap.size + 1; omega) _).drew, (HZ.out.other (by show w.heap.size ≠ w.heap.size + 1 + 1; omega) _).drew, (HW.out.setCell (by show w.heap.size ≤ w.heap.size; omega) _).drew⟩
      case measure => simp [intOf]; omega
    · obtain rfl : k = 4 := by omega
      clear ha hb hz hw
      go_wp2_with (first
        | (refine wpList_load_row rfl 87 _ rfl w.heap.size rfl 87 (cellsOf .u8 (mk 4 (xorK f g))) (0, 0) _ (by rw [← xsTo_end]; exact HA.out) wordUnder rfl (wordSize _) ?_)
        | (refine wpList_store_row rfl 87 _ _ rfl (w.heap.size + 1 + 1) _ rfl rfl 87 (cellsOf .u8 (mk 4 zeroK)) HZ.out (wordSize _) (by rw [cellsOf_size, cellsOf_size, mk_len, mk_len]) (cellsOf_one _ _) ?_))
      refine bodyPost_ret (results_cell_row rfl _ _ (w.heap.size + 1 + 1) 87 (cellsOf .u8 (mk 4 (xorK f g))) (0, 0) _ rfl (HZ.out.setRow .u8 (mk 4 (xorK f g))) wordUnder rfl (wordSize _)) rfl ⟨rfl, below_setRow HW.out (by omega) _⟩
end Go.Proofs.Ytghdeedglekphaa

/- Plain mathematics of mixed columns: mixing and unmixing undo one another, and both keep sums. Condition: the columns' bytes are bytes. -/
namespace Go.Proofs.Ytghdeedglekphaa
open Go

theorem mul_nought (x : Nat) : mul x 0 = 0 := mulS_zero 8 x 0
theorem mul_one_eq (x : Nat) : mul x 1 = x := mul_one'
theorem mxK_at (f g : Nat → Nat) (k : Nat) : mxK f g k = ((mul (f 0) (g ((0 + 4 - k) % 4)) ^^^ mul (f 1) (g ((1 + 4 - k) % 4))) ^^^ mul (f 2) (g ((2 + 4 - k) % 4))) ^^^ mul (f 3) (g ((3 + 4 - k) % 4)) := by
  unfold mxK mxS mxS mxS mxS mxS
  rw [Nat.zero_xor]
/-- Mixed twice: the factor of byte m in byte k. -/
def fac2 (g h : Nat → Nat) (k m : Nat) : Nat :=
  ((mul (g ((m + 4 - 0) % 4)) (h ((0 + 4 - k) % 4)) ^^^ mul (g ((m + 4 - 1) % 4)) (h ((1 + 4 - k) % 4))) ^^^ mul (g ((m + 4 - 2) % 4)) (h ((2 + 4 - k) % 4))) ^^^ mul (g ((m + 4 - 3) % 4)) (h ((3 + 4 - k) % 4))
theorem mul_sum4 {a b c d : Nat} (u : Nat) (ha : a < 256) (hb : b < 256) (hc : c < 256) (hd : d < 256) :
    mul (((a ^^^ b) ^^^ c) ^^^ d) u = ((mul a u ^^^ mul b u) ^^^ mul c u) ^^^ mul d u := by
  rw [mul_left u (xor_lt (xor_lt ha hb) hc) hd, mul_left u (xor_lt ha hb) hc, mul_left u ha hb]
theorem mx_twice {f g h : Nat → Nat} (hf : IsWord f) (hg : IsWord g) (hh : IsWord h) (k : Nat) :
    mxK (mxK f g) h k = ((mul (f 0) (fac2 g h k 0) ^^^ mul (f 1) (fac2 g h k 1)) ^^^ mul (f 2) (fac2 g h k 2)) ^^^ mul (f 3) (fac2 g h k 3) := by
  rw [mxK_at (mxK f g) h k]
  simp only [mxK_at f g]
  have g' : ∀ i, g (i % 4) < 256 := fun i => hg _ (by omega)
  have h' : ∀ i, h (i % 4) < 256 := fun i => hh _ (by omega)
  have b0 := hf 0 (by omega)
  have b1 := hf 1 (by omega)
  have b2 := hf 2 (by omega)
  have b3 := hf 3 (by omega)
  have one : ∀ n u, u < 256 → mul (((mul (f 0) (g ((0 + 4 - n) % 4)) ^^^ mul (f 1) (g ((1 + 4 - n) % 4))) ^^^ mul (f 2) (g ((2 + 4 - n) % 4))) ^^^ mul (f 3) (g ((3 + 4 - n) % 4))) u
      = ((mul (f 0) (mul (g ((0 + 4 - n) % 4)) u) ^^^ mul (f 1) (mul (g ((1 + 4 - n) % 4)) u)) ^^^ mul (f 2) (mul (g ((2 + 4 - n) % 4)) u)) ^^^ mul (f 3) (mul (g ((3 + 4 - n) % 4)) u) := fun n u hu => by
    rw [mul_sum4 u (mul_lt b0) (mul_lt b1) (mul_lt b2) (mul_lt b3), mul_assoc' b0 (g' _) hu, mul_assoc' b1 (g' _) hu, mul_assoc' b2 (g' _) hu, mul_assoc' b3 (g' _) hu]
  rw [one 0 _ (h' _), one 1 _ (h' _), one 2 _ (h' _), one 3 _ (h' _)]
  unfold fac2
  simp only [mul_right]
  ac_rfl
theorem fac_mu : ∀ k m : Fin 4, fac2 facM facU k.val m.val = if m.val = k.val then 1 else 0 := by decide +kernel
theorem fac_um : ∀ k m : Fin 4, fac2 facU facM k.val m.val = if m.val = k.val then 1 else 0 := by decide +kernel
theorem pick4 (f : Nat → Nat) {k : Nat} (hk : k < 4) : ((mul (f 0) (if 0 = k then 1 else 0) ^^^ mul (f 1) (if 1 = k then 1 else 0)) ^^^ mul (f 2) (if 2 = k then 1 else 0)) ^^^ mul (f 3) (if 3 = k then 1 else 0) = f k := by
  rcases (show k = 0 ∨ k = 1 ∨ k = 2 ∨ k = 3 by omega) with rfl | rfl | rfl | rfl <;> simp [mul_nought, mul_one_eq]
theorem unm_mix {f : Nat → Nat} (hf : IsWord f) {k : Nat} (hk : k < 4) : unmK (mixK f) k = f k := by
  unfold unmK mixK
  rw [mx_twice hf facM_word facU_word k]
  have e : ∀ m, m < 4 → fac2 facM facU k m = if m = k then 1 else 0 := fun m hm => fac_mu ⟨k, hk⟩ ⟨m, hm⟩
  rw [e 0 (by omega), e 1 (by omega), e 2 (by omega), e 3 (by omega)]; exact pick4 f hk
theorem mix_unm {f : Nat → Nat} (hf : IsWord f) {k : Nat} (hk : k < 4) : mixK (unmK f) k = f k := by
  unfold unmK mixK
  rw [mx_twice hf facU_word facM_word k]
  have e : ∀ m, m < 4 → fac2 facU facM k m = if m = k then 1 else 0 := fun m hm => fac_um ⟨k, hk⟩ ⟨m, hm⟩
  rw [e 0 (by omega), e 1 (by omega), e 2 (by omega), e 3 (by omega)]; exact pick4 f hk
theorem mx_sum {f f' : Nat → Nat} (g : Nat → Nat) (hf : IsWord f) (hf' : IsWord f') (k : Nat) : mxK (fun i => f i ^^^ f' i) g k = mxK f g k ^^^ mxK f' g k := by
  simp only [mxK_at]
  rw [mul_left _ (hf 0 (by omega)) (hf' 0 (by omega)), mul_left _ (hf 1 (by omega)) (hf' 1 (by omega)), mul_left _ (hf 2 (by omega)) (hf' 2 (by omega)), mul_left _ (hf 3 (by omega)) (hf' 3 (by omega))]
  ac_rfl
end Go.Proofs.Ytghdeedglekphaa

/- Plain mathematics of the cipher's rounds: to decrypt undoes to encrypt and the other way round, with any round keys. Condition: all bytes are bytes. -/
namespace Go.Proofs.Ytghdeedglekphaa
open Go

def subK (f : Nat → Nat) : Nat → Nat := fun i => subN (f i)
def bakK (f : Nat → Nat) : Nat → Nat := fun i => backN (f i)
theorem subK_key {f : Nat → Nat} (h : IsKey f) : IsKey (subK f) := fun j hj => subN_lt (h j hj)
theorem bakK_key {f : Nat → Nat} (h : IsKey f) : IsKey (bakK f) := fun j hj => backN_lt (h j hj)
/-- A round there: what is done ahead of the sum. -/
def inE (n i : Nat) (s : Nat → Nat) : Nat → Nat := if i = 0 then s else if i + 1 < n then colK mixK (shK (subK s)) else shK (subK s)
def rndE (R : Nat → Nat → Nat) (n i : Nat) (s : Nat → Nat) : Nat → Nat := xorK (inE n i s) (R i)
/-- A round back: what is done behind the sum. -/
def inD (n i : Nat) (t : Nat → Nat) : Nat → Nat := if i = 0 then t else if i + 1 < n then bakK (unK (colK unmK t)) else bakK (unK t)
def rndD (R : Nat → Nat → Nat) (n i : Nat) (s : Nat → Nat) : Nat → Nat := inD n i (xorK s (R i))
def encTo (R : Nat → Nat → Nat) (n : Nat) (f : Nat → Nat) : Nat → Nat → Nat
  | 0 => f
  | i + 1 => rndE R n i (encTo R n f i)
def decTo (R : Nat → Nat → Nat) (n : Nat) (f : Nat → Nat) : Nat → Nat → Nat
  | 0 => f
  | d + 1 => rndD R n (n - 1 - d) (decTo R n f d)
def encK (R : Nat → Nat → Nat) (n : Nat) (f : Nat → Nat) : Nat → Nat := encTo R n f n
def decK (R : Nat → Nat → Nat) (n : Nat) (f : Nat → Nat) : Nat → Nat := decTo R n f n
theorem encTo_step (R : Nat → Nat → Nat) (n : Nat) (f : Nat → Nat) (i : Nat) : encTo R n f (i + 1) = xorK (inE n i (encTo R n f i)) (R i) := rfl
theorem decTo_step (R : Nat → Nat → Nat) (n : Nat) (f : Nat → Nat) (d : Nat) : decTo R n f (d + 1) = inD n (n - 1 - d) (xorK (decTo R n f d) (R (n - 1 - d))) := rfl
theorem encK_is (R : Nat → Nat → Nat) (n : Nat) (f : Nat → Nat) : encK R n f = encTo R n f n := rfl
theorem decK_is (R : Nat → Nat → Nat) (n : Nat) (f : Nat → Nat) : decK R n f = decTo R n f n := rfl
theorem encTo_zero (R : Nat → Nat → Nat) (n : Nat) (f : Nat → Nat) : encTo R n f 0 = f := rfl
theorem decTo_zero (R : Nat → Nat → Nat) (n : Nat) (f : Nat → Nat) : decTo R n f 0 = f := rfl
theorem inE_first (n : Nat) (s : Nat → Nat) : inE n 0 s = s := rfl
theorem inE_zero {n i : Nat} (s : Nat → Nat) (h0 : i = 0) : inE n i s = s := by unfold inE; rw [if_pos h0]
theorem inD_zero {n i : Nat} (s : Nat → Nat) (h0 : i = 0) : inD n i s = s := by unfold inD; rw [if_pos h0]
theorem inE_mid {n i : Nat} (s : Nat → Nat) (h0 : i ≠ 0) (h1 : i + 1 < n) : inE n i s = colK mixK (shK (subK s)) := by unfold inE; rw [if_neg h0, if_pos h1]
theorem inE_last {n i : Nat} (s : Nat → Nat) (h0 : i ≠ 0) (h1 : ¬ i + 1 < n) : inE n i s = shK (subK s) := by unfold inE; rw [if_neg h0, if_neg h1]
theorem inD_first (n : Nat) (s : Nat → Nat) : inD n 0 s = s := rfl
theorem inD_mid {n i : Nat} (s : Nat → Nat) (h0 : i ≠ 0) (h1 : i + 1 < n) : inD n i s = bakK (unK (colK unmK s)) := by unfold inD; rw [if_neg h0, if_pos h1]
theorem inD_last {n i : Nat} (s : Nat → Nat) (h0 : i ≠ 0) (h1 : ¬ i + 1 < n) : inD n i s = bakK (unK s) := by unfold inD; rw [if_neg h0, if_neg h1]
theorem inE_key {s : Nat → Nat} (n i : Nat) (h : IsKey s) : IsKey (inE n i s) := by
  unfold inE; split
  · exact h
  · split
    · exact mixCol_key (shK_key (subK_key h))
    · exact shK_key (subK_key h)
theorem inD_key {s : Nat → Nat} (n i : Nat) (h : IsKey s) : IsKey (inD n i s) := by
  unfold inD; split
  · exact h
  · split
    · exact bakK_key (unK_key (unmCol_key h))
    · exact bakK_key (unK_key h)
theorem encTo_key {R : Nat → Nat → Nat} {n : Nat} {f : Nat → Nat} (hR : ∀ i, i < n → IsKey (R i)) (hf : IsKey f) : ∀ i, i ≤ n → IsKey (encTo R n f i)
  | 0, _ => hf
  | i + 1, h => xorK_key (inE_key n i (encTo_key hR hf i (by omega))) (hR i (by omega))
theorem decTo_key {R : Nat → Nat → Nat} {n : Nat} {f : Nat → Nat} (hR : ∀ i, i < n → IsKey (R i)) (hf : IsKey f) : ∀ d, d ≤ n → IsKey (decTo R n f d)
  | 0, _ => hf
  | d + 1, h => inD_key n _ (xorK_key (decTo_key hR hf d (by omega)) (hR _ (by omega)))

/-- The same key. -/
def EqK (f g : Nat → Nat) : Prop := ∀ j, j < 16 → f j = g j
theorem EqK.mk {f g : Nat → Nat} (h : EqK f g) : mk 16 f = mk 16 g := mk_ext h
theorem EqK.refl (f : Nat → Nat) : EqK f f := fun _ _ => rfl
theorem EqK.trans {f g h : Nat → Nat} (a : EqK f g) (b : EqK g h) : EqK f h := fun j hj => (a j hj).trans (b j hj)
theorem eq_sub {f g : Nat → Nat} (h : EqK f g) : EqK (subK f) (subK g) := fun j hj => by unfold subK; rw [h j hj]
theorem eq_bak {f g : Nat → Nat} (h : EqK f g) : EqK (bakK f) (bakK g) := fun j hj => by unfold bakK; rw [h j hj]
theorem eq_sh {f g : Nat → Nat} (h : EqK f g) : EqK (shK f) (shK g) := fun j _ => h _ (fromN_lt j)
theorem eq_un {f g : Nat → Nat} (h : EqK f g) : EqK (unK f) (unK g) := fun j _ => h _ (backP_lt j)
theorem eq_xor {f g a : Nat → Nat} (h : EqK f g) : EqK (xorK f a) (xorK g a) := fun j hj => by unfold xorK; rw [h j hj]
theorem mx_eq {f g : Nat → Nat} (a : Nat → Nat) (h : ∀ i, i < 4 → f i = g i) (k : Nat) : mxK f a k = mxK g a k := by
  simp only [mxK_at, h 0 (by omega), h 1 (by omega), h 2 (by omega), h 3 (by omega)]
theorem eq_mix {f g : Nat → Nat} (h : EqK f g) : EqK (colK mixK f) (colK mixK g) := fun j hj => mx_eq facM (fun i hi => h _ (by omega)) _
theorem eq_unm {f g : Nat → Nat} (h : EqK f g) : EqK (colK unmK f) (colK unmK g) := fun j hj => mx_eq facU (fun i hi => h _ (by omega)) _
theorem eq_inE {f g : Nat → Nat} (n i : Nat) (h : EqK f g) : EqK (inE n i f) (inE n i g) := by
  unfold inE; split
  · exact h
  · split
    · exact eq_mix (eq_sh (eq_sub h))
    · exact eq_sh (eq_sub h)
theorem eq_inD {f g : Nat → Nat} (n i : Nat) (h : EqK f g) : EqK (inD n i f) (inD n i g) := by
  unfold inD; split
  · exact h
  · split
    · exact eq_bak (eq_un (eq_unm h))
    · exact eq_bak (eq_un h)
theorem xor_twice (f a : Nat → Nat) : EqK (xorK (xorK f a) a) f := fun j _ => by
  show (f j ^^^ a j) ^^^ a j = f j
  rw [Nat.xor_assoc, Nat.xor_self, Nat.xor_zero]
theorem col_parts (m : (Nat → Nat) → Nat → Nat) (f : Nat → Nat) (c i : Nat) (hi : i < 4) : colAt (colK m f) c i = m (colAt f c) i := by
  unfold colAt colK
  rw [show (4 * c + i) / 4 = c by omega, show (4 * c + i) % 4 = i by omega]; rfl
theorem un_col {f : Nat → Nat} (h : IsKey f) : EqK (colK unmK (colK mixK f)) f := fun j hj => by
  show unmK (colAt (colK mixK f) (j / 4)) (j % 4) = f j
  have : unmK (colAt (colK mixK f) (j / 4)) (j % 4) = unmK (mixK (colAt f (j / 4))) (j % 4) := mx_eq facU (fun i hi => col_parts mixK f _ i hi) _
  rw [this, unm_mix (colAt_word h (by omega)) (by omega)]
  unfold colAt; congr 1; omega
theorem col_un {f : Nat → Nat} (h : IsKey f) : EqK (colK mixK (colK unmK f)) f := fun j hj => by
  show mixK (colAt (colK unmK f) (j / 4)) (j % 4) = f j
  have : mixK (colAt (colK unmK f) (j / 4)) (j % 4) = mixK (unmK (colAt f (j / 4))) (j % 4) := mx_eq facM (fun i hi => col_parts unmK f _ i hi) _
  rw [this, mix_unm (colAt_word h (by omega)) (by omega)]
  unfold colAt; congr 1; omega
theorem un_sh (f : Nat → Nat) : EqK (unK (shK f)) f := fun j hj => by show f (fromN (backP j)) = f j; rw [from_back hj]
theorem sh_un (f : Nat → Nat) : EqK (shK (unK f)) f := fun j hj => by show f (backP (fromN j)) = f j; rw [back_from hj]
theorem bak_sub {f : Nat → Nat} (h : IsKey f) : EqK (bakK (subK f)) f := fun j hj => back_sub (h j hj)
theorem sub_bak {f : Nat → Nat} (h : IsKey f) : EqK (subK (bakK f)) f := fun j hj => sub_back (h j hj)
theorem inD_inE {s : Nat → Nat} (n i : Nat) (h : IsKey s) : EqK (inD n i (inE n i s)) s := by
  unfold inD inE
  by_cases h0 : i = 0
  · rw [if_pos h0, if_pos h0]; exact EqK.refl s
  · rw [if_neg h0, if_neg h0]
    by_cases h1 : i + 1 < n
    · rw [if_pos h1, if_pos h1]
      exact (eq_bak ((eq_un (un_col (shK_key (subK_key h)))).trans (un_sh _))).trans (bak_sub h)
    · rw [if_neg h1, if_neg h1]
      exact (eq_bak (un_sh _)).trans (bak_sub h)
theorem inE_inD {s : Nat → Nat} (n i : Nat) (h : IsKey s) : EqK (inE n i (inD n i s)) s := by
  unfold inD inE
  by_cases h0 : i = 0
  · rw [if_pos h0, if_pos h0]; exact EqK.refl s
  · rw [if_neg h0, if_neg h0]
    by_cases h1 : i + 1 < n
    · rw [if_pos h1, if_pos h1]
      exact (eq_mix ((eq_sh (sub_bak (unK_key (unmCol_key h)))).trans (sh_un _))).trans (col_un h)
    · rw [if_neg h1, if_neg h1]
      exact (eq_sh (sub_bak (unK_key h))).trans (sh_un _)
theorem rnd_back {s : Nat → Nat} (R : Nat → Nat → Nat) (n i : Nat) (h : IsKey s) : EqK (rndD R n i (rndE R n i s)) s :=
  (eq_inD n i (xor_twice _ _)).trans (inD_inE n i h)
theorem rnd_there {s : Nat → Nat} (R : Nat → Nat → Nat) (n i : Nat) (h : IsKey s) (hR : IsKey (R i)) : EqK (rndE R n i (rndD R n i s)) s :=
  (eq_xor (inE_inD n i (xorK_key h hR))).trans (xor_twice _ _)
theorem dec_from {R : Nat → Nat → Nat} {n : Nat} {f : Nat → Nat} (hR : ∀ i, i < n → IsKey (R i)) (hf : IsKey f) : ∀ d, d ≤ n → EqK (decTo R n (encK R n f) d) (encTo R n f (n - d))
  | 0, _ => EqK.refl _
  | d + 1, h => by
    have ih := dec_from hR hf d (by omega)
    have e : encTo R n f (n - d) = rndE R n (n - 1 - d) (encTo R n f (n - 1 - d)) := by
      rw [show n - d = (n - 1 - d) + 1 by omega]; rfl
    rw [e] at ih
    have e2 : n - (d + 1) = n - 1 - d := by omega
    rw [e2]
    exact (eq_inD n _ (eq_xor ih)).trans (rnd_back R n (n - 1 - d) (encTo_key hR hf _ (by omega)))
theorem enc_from {R : Nat → Nat → Nat} {n : Nat} {f : Nat → Nat} (hR : ∀ i, i < n → IsKey (R i)) (hf : IsKey f) : ∀ i, i ≤ n → EqK (encTo R n (decK R n f) i) (decTo R n f (n - i))
  | 0, _ => EqK.refl _
  | i + 1, h => by
    have ih := enc_from hR hf i (by omega)
    have e : decTo R n f (n - i) = rndD R n i (decTo R n f (n - (i + 1))) := by
      rw [show n - i = (n - (i + 1)) + 1 by omega]
      show rndD R n (n - 1 - (n - (i + 1))) _ = _
      rw [show n - 1 - (n - (i + 1)) = i by omega]
    rw [e] at ih
    exact (eq_xor (eq_inE n i ih)).trans (rnd_there R n i (decTo_key hR hf _ (by omega)) (hR i (by omega)))
theorem dec_enc {R : Nat → Nat → Nat} {n : Nat} {f : Nat → Nat} (hR : ∀ i, i < n → IsKey (R i)) (hf : IsKey f) : mk 16 (decK R n (encK R n f)) = mk 16 f := by
  have := dec_from hR hf n (Nat.le_refl n)
  rw [Nat.sub_self] at this; exact this.mk
theorem enc_dec {R : Nat → Nat → Nat} {n : Nat} {f : Nat → Nat} (hR : ∀ i, i < n → IsKey (R i)) (hf : IsKey f) : mk 16 (encK R n (decK R n f)) = mk 16 f := by
  have := enc_from hR hf n (Nat.le_refl n)
  rw [Nat.sub_self] at this; exact this.mk
end Go.Proofs.Ytghdeedglekphaa

/- The contracts of package cipher's Encrypt and Decrypt: each answers the key that the plain functions say, with any round keys, and writes nothing that was there. Conditions: all bytes are bytes; there are fewer than 2^32 round keys. -/
namespace Go.Proofs.Ytghdeedglekphaa
open Go.ChangeShapes Go.WideShapes Go.ChangeAt Go.RowKit

/-- n round keys lie behind a pointer. -/
def KeysAt (w : World) (p : Option Addr) (n : Nat) (R : Nat → Nat → Nat) : Prop := n = 0 ∨ ∃ B o, p = some ⟨B, o, none⟩ ∧ B < w.heap.size ∧ ∀ i, i < n → Cells w B (o + i * 16) 16 (R i)
theorem KeysAt.below {w w' : World} {p : Option Addr} {n : Nat} {R : Nat → Nat → Nat} (h : KeysAt w p n R) (hb : Below w.heap.size w w') : KeysAt w' p n R := by
  rcases h with h | ⟨B, o, hp, hB, hc⟩
  · exact .inl h
  · exact .inr ⟨B, o, hp, Nat.lt_of_lt_of_le hB hb.size, fun i hi => (hc i hi).below hb hB⟩
theorem keyInfo : (Try.prog.info? 65).map (·.size) = some 16 := by kernel_rfl
theorem subAll_k (f : Nat → Nat) (hf : IsKey f) (w : World) : Calls Try.prog 35 #[.agg (cellsOf .u8 (mk 16 f))] w fun e w' => e = .returned (.agg (cellsOf .u8 (mk 16 (subK f)))) ∧ Below w.heap.size w w' := SubAll_any f hf w
theorem backAll_k (f : Nat → Nat) (hf : IsKey f) (w : World) : Calls Try.prog 44 #[.agg (cellsOf .u8 (mk 16 f))] w fun e w' => e = .returned (.agg (cellsOf .u8 (mk 16 (bakK f)))) ∧ Below w.heap.size w w' := BackAll_any f hf w
attribute [local irreducible] inE inD encTo decTo xorK shK unK subK bakK colK mixK unmK

set_option maxRecDepth 100000 in
set_option maxHeartbeats 4000000 in
theorem Encrypt_any (p : Option Addr) (n cap : Nat) (R : Nat → Nat → Nat) (f : Nat → Nat) (hR : ∀ i, i < n → IsKey (R i)) (hf : IsKey f) (hn : n < 4294967296) (w : World) (hp : KeysAt w p n R) :
    Calls Try.prog 25 #[.slice p n cap, .agg (cellsOf .u8 (mk 16 f))] w fun e w' => e = .returned (.agg (cellsOf .u8 (mk 16 (encK R n f)))) ∧ Below w.heap.size w w' := by
  have q1 : IntKind.i64.wrap ((n : Int) - 1) = (n : Int) - 1 := IntWalk.i64_in _ (by omega)
  rw [encK_is]
  go_enter Try.func25, Try.ntmps25
  go_wp2
  go_loopw [13] (fun v13 wr => ∃ i : Nat, i ≤ n ∧ v13 = .int .i64 i ∧ IntBlk wr w.heap.size .u8 65 (mk 16 (encTo R n f i)) ∧ IntBlk wr (w.heap.size + 1) .u8 65 (mk 16 zeroK) ∧ Below w.heap.size w wr) (fun v13 _ => n - (intOf v13).toNat)
  case atStart => exact ⟨0, by omega, rfl, by rw [encTo_zero]; exact (IntBlk.new w .u8 65 (mk 16 f)).alloc _, blk_two w .u8 65 (mk 16 zeroK) _, below_two w _ _⟩
  case round =>
    obtain ⟨i, hi, rfl, ha, hz, hw⟩ := hrel
    have hs : w.heap.size + 1 < wr.heap.size := hz.lt
    by_cases hlt : i < n
    · rcases hp with hp | ⟨B, o, rfl, hB, hc⟩
      · omega
      have hk := encTo_key hR hf i (by omega)
      have hr := hR i hlt
      have CR := Lib.hid ((hc i hlt).below hw hB)
      have HS := Lib.hid (encTo_step R n f i)
      have A1 := Lib.hid ((ha.alloc (.cells (cellsOf .u8 (mk 16 zeroK)) 65)).otherRow (C := wr.heap.size) (by omega) (cellsOf .u8 (mk 16 (R i))))
      have Z1 := Lib.hid ((hz.alloc (.cells (cellsOf .u8 (mk 16 zeroK)) 65)).otherRow (C := wr.heap.size) (by omega) (cellsOf .u8 (mk 16 (R i))))
      have T1 := Lib.hid ((IntBlk.new wr .u8 65 (mk 16 zeroK)).setRow .u8 (mk 16 (R i)))
      have L1 := Lib.hid (below_setRow (hw.alloc (by omega) (.cells (cellsOf .u8 (mk 16 zeroK)) 65)) (g := wr.heap.size) (by omega) (cellsOf .u8 (mk 16 (R i))))
      clear ha hz hw hc
      generalize encTo R n f i = s at *
      have k1 := subK_key hk
      have k2 := shK_key k1
      have k3 := mixCol_key k2
      by_cases h0 : i = 0
      · have d1 : decide (0 < i) = false := by simp; omega
        have d3 : decide ((0 : Int) < (i : Int)) = false := by simp; omega
        have H0 := Lib.hid h0; clear h0
        go_wp2_with (first
        | (refine wpList_load_part rfl 65 _ rfl B (o + i * 16) 16 (R i) rfl _ CR.out keyUnder rfl keyInfo ?_)
        | (refine store_row_on rfl 65 _ _ rfl rfl wr.heap.size (cellsOf .u8 (mk 16 (R i))) rfl rfl 65 (cellsOf .u8 (mk 16 (zeroK))) (IntBlk.new wr .u8 65 (mk 16 zeroK)) (keySize _) (by rw [cellsOf_size, cellsOf_size, mk_len, mk_len]) (cellsOf_one _ _) ?_)
        | (refine wpList_load_row rfl 65 _ rfl w.heap.size rfl 65 (cellsOf .u8 (mk 16 (s))) (0, 0) _ A1.out keyUnder rfl (keySize _) ?_)
        | (refine wpList_load_row rfl 65 _ rfl wr.heap.size rfl 65 (cellsOf .u8 (mk 16 (R i))) (0, 0) _ T1.out keyUnder rfl (keySize _) ?_)
        | fail)
        refine (Xor_any (s) (R i) hk hr _).mono ?_
        rintro e wx ⟨rfl, hb⟩
        have A2 := Lib.hid (A1.out.below hb A1.out.lt)
        have Z2 := Lib.hid (Z1.out.below hb Z1.out.lt)
        have T2 := Lib.hid (T1.out.below hb T1.out.lt)
        have L2 := Lib.hid (L1.out.trans (hb.mono L1.out.size))
        clear hb A1 Z1 L1 T1
        have A3 := Lib.hid (A2.out.setRow .u8 (mk 16 (xorK (s) (R i))))
        have Z3 := Lib.hid (Z2.out.otherRow (C := w.heap.size) (by omega) (cellsOf .u8 (mk 16 (xorK (s) (R i)))))
        have T3 := Lib.hid (T2.out.otherRow (C := w.heap.size) (by omega) (cellsOf .u8 (mk 16 (xorK (s) (R i)))))
        have L3 := Lib.hid (below_setRow L2.out (g := w.heap.size) (by omega) (cellsOf .u8 (mk 16 (xorK (s) (R i)))))
        go_wp2_with (first
        | (refine store_row_on rfl 65 _ _ rfl rfl w.heap.size (cellsOf .u8 (mk 16 (xorK (s) (R i)))) rfl rfl 65 (cellsOf .u8 (mk 16 (s))) A2.out (keySize _) (by rw [cellsOf_size, cellsOf_size, mk_len, mk_len]) (cellsOf_one _ _) ?_)
        | fail)
        go_roundw
        case rel => exact ⟨i + 1, by omega, by go_num, by rw [HS.out, inE_zero s H0.out]; exact A3.out, Z3.out, L3.out⟩
        case measure => simp [intOf]; omega
      · have d1 : decide ((0 : Int) < (i : Int)) = true := by simp; omega
        by_cases h1 : i + 1 < n
        · have d2 : decide ((i : Int) < (n : Int) - 1) = true := by simp; omega
          go_wp2_with (first
        | (refine wpList_load_part rfl 65 _ rfl B (o + i * 16) 16 (R i) rfl _ CR.out keyUnder rfl keyInfo ?_)
        | (refine store_row_on rfl 65 _ _ rfl rfl wr.heap.size (cellsOf .u8 (mk 16 (R i))) rfl rfl 65 (cellsOf .u8 (mk 16 (zeroK))) (IntBlk.new wr .u8 65 (mk 16 zeroK)) (keySize _) (by rw [cellsOf_size, cellsOf_size, mk_len, mk_len]) (cellsOf_one _ _) ?_)
        | (refine wpList_load_row rfl 65 _ rfl w.heap.size rfl 65 (cellsOf .u8 (mk 16 (s))) (0, 0) _ A1.out keyUnder rfl (keySize _) ?_)
        | fail)
          refine (subAll_k s hk _).mono ?_
          rintro e w2 ⟨rfl, hb⟩
          have A2 := Lib.hid (A1.out.below hb A1.out.lt)
          have Z2 := Lib.hid (Z1.out.below hb Z1.out.lt)
          have T2 := Lib.hid (T1.out.below hb T1.out.lt)
          have L2 := Lib.hid (L1.out.trans (hb.mono L1.out.size))
          clear hb A1 Z1 L1 T1
          go_wp2_with (first
        | fail)
          refine (Shift_any (subK s) _).mono ?_
          rintro e w3 ⟨rfl, hb⟩
          have A3 := Lib.hid (A2.out.below hb A2.out.lt)
          have Z3 := Lib.hid (Z2.out.below hb Z2.out.lt)
          have T3 := Lib.hid (T2.out.below hb T2.out.lt)
          have L3 := Lib.hid (L2.out.trans (hb.mono L2.out.size))
          clear hb A2 Z2 L2 T2
          have A4 := Lib.hid (A3.out.setRow .u8 (mk 16 (shK (subK s))))
          have Z4 := Lib.hid (Z3.out.otherRow (C := w.heap.size) (by omega) (cellsOf .u8 (mk 16 (shK (subK s)))))
          have T4 := Lib.hid (T3.out.otherRow (C := w.heap.size) (by omega) (cellsOf .u8 (mk 16 (shK (subK s)))))
          have L4 := Lib.hid (below_setRow L3.out (g := w.heap.size) (by omega) (cellsOf .u8 (mk 16 (shK (subK s)))))
          go_wp2_with (first
        | (refine store_row_on rfl 65 _ _ rfl rfl w.heap.size (cellsOf .u8 (mk 16 (shK (subK s)))) rfl rfl 65 (cellsOf .u8 (mk 16 (s))) A3.out (keySize _) (by rw [cellsOf_size, cellsOf_size, mk_len, mk_len]) (cellsOf_one _ _) ?_)
        | (refine wpList_load_row rfl 65 _ rfl w.heap.size rfl 65 (cellsOf .u8 (mk 16 (shK (subK s)))) (0, 0) _ A4.out keyUnder rfl (keySize _) ?_)
        | fail)
          refine (mixCols_any (shK (subK s)) k2 _).mono ?_
          rintro e w4 ⟨rfl, hb⟩
          have A5 := Lib.hid (A4.out.below hb A4.out.lt)
          have Z5 := Lib.hid (Z4.out.below hb Z4.out.lt)
          have T5 := Lib.hid (T4.out.below hb T4.out.lt)
          have L5 := Lib.hid (L4.out.trans (hb.mono L4.out.size))
          clear hb A4 Z4 L4 T4
          have A6 := Lib.hid (A5.out.setRow .u8 (mk 16 (colK mixK (shK (subK s)))))
          have Z6 := Lib.hid (Z5.out.otherRow (C := w.heap.size) (by omega) (cellsOf .u8 (mk 16 (colK mixK (shK (subK s))))))
          have T6 := Lib.hid (T5.out.otherRow (C := w.heap.size) (by omega) (cellsOf .u8 (mk 16 (colK mixK (shK (subK s))))))
          have L6 := Lib.hid (below_setRow L5.out (g := w.heap.size) (by omega) (cellsOf .u8 (mk 16 (colK mixK (shK (subK s))))))
          go_wp2_with (first
        | (refine store_row_on rfl 65 _ _ rfl rfl w.heap.size (cellsOf .u8 (mk 16 (colK mixK (shK (subK s))))) rfl rfl 65 (cellsOf .u8 (mk 16 (shK (subK s)))) A5.out (keySize _) (by rw [cellsOf_size, cellsOf_size, mk_len, mk_len]) (cellsOf_one _ _) ?_)
        | (refine wpList_load_row rfl 65 _ rfl w.heap.size rfl 65 (cellsOf .u8 (mk 16 (colK mixK (shK (subK s))))) (0, 0) _ A6.out keyUnder rfl (keySize _) ?_)
        | (refine wpList_load_row rfl 65 _ rfl wr.heap.size rfl 65 (cellsOf .u8 (mk 16 (R i))) (0, 0) _ T6.out keyUnder rfl (keySize _) ?_)
        | fail)
          refine (Xor_any (colK mixK (shK (subK s))) (R i) k3 hr _).mono ?_
          rintro e wx ⟨rfl, hb⟩
          have A7 := Lib.hid (A6.out.below hb A6.out.lt)
          have Z7 := Lib.hid (Z6.out.below hb Z6.out.lt)
          have T7 := Lib.hid (T6.out.below hb T6.out.lt)
          have L7 := Lib.hid (L6.out.trans (hb.mono L6.out.size))
          clear hb A6 Z6 L6 T6
          have A8 := Lib.hid (A7.out.setRow .u8 (mk 16 (xorK (colK mixK (shK (subK s))) (R i))))
          have Z8 := Lib.hid (Z7.out.otherRow (C := w.heap.size) (by omega) (cellsOf .u8 (mk 16 (xorK (colK mixK (shK (subK s))) (R i)))))
          have T8 := Lib.hid (T7.out.otherRow (C := w.heap.size) (by omega) (cellsOf .u8 (mk 16 (xorK (colK mixK (shK (subK s))) (R i)))))
          have L8 := Lib.hid (below_setRow L7.out (g := w.heap.size) (by omega) (cellsOf .u8 (mk 16 (xorK (colK mixK (shK (subK s))) (R i)))))
          go_wp2_with (first
        | (refine store_row_on rfl 65 _ _ rfl rfl w.heap.size (cellsOf .u8 (mk 16 (xorK (colK mixK (shK (subK s))) (R i)))) rfl rfl 65 (cellsOf .u8 (mk 16 (colK mixK (shK (subK s))))) A7.out (keySize _) (by rw [cellsOf_size, cellsOf_size, mk_len, mk_len]) (cellsOf_one _ _) ?_)
        | fail)
          go_roundw
          case rel => exact ⟨i + 1, by omega, by go_num, by rw [HS.out, inE_mid s h0 h1]; exact A8.out, Z8.out, L8.out⟩
          case measure => simp [intOf]; omega
        · have d2 : decide ((i : Int) < (n : Int) - 1) = false := by simp; omega
          go_wp2_with (first
        | (refine wpList_load_part rfl 65 _ rfl B (o + i * 16) 16 (R i) rfl _ CR.out keyUnder rfl keyInfo ?_)
        | (refine store_row_on rfl 65 _ _ rfl rfl wr.heap.size (cellsOf .u8 (mk 16 (R i))) rfl rfl 65 (cellsOf .u8 (mk 16 (zeroK))) (IntBlk.new wr .u8 65 (mk 16 zeroK)) (keySize _) (by rw [cellsOf_size, cellsOf_size, mk_len, mk_len]) (cellsOf_one _ _) ?_)
        | (refine wpList_load_row rfl 65 _ rfl w.heap.size rfl 65 (cellsOf .u8 (mk 16 (s))) (0, 0) _ A1.out keyUnder rfl (keySize _) ?_)
        | fail)
          refine (subAll_k s hk _).mono ?_
          rintro e w2 ⟨rfl, hb⟩
          have A2 := Lib.hid (A1.out.below hb A1.out.lt)
          have Z2 := Lib.hid (Z1.out.below hb Z1.out.lt)
          have T2 := Lib.hid (T1.out.below hb T1.out.lt)
          have L2 := Lib.hid (L1.out.trans (hb.mono L1.out.size))
          clear hb A1 Z1 L1 T1
          go_wp2_with (first
        | fail)
          refine (Shift_any (subK s) _).mono ?_
          rintro e w3 ⟨rfl, hb⟩
          have A3 := Lib.hid (A2.out.below hb A2.out.lt)
          have Z3 := Lib.hid (Z2.out.below hb Z2.out.lt)
          have T3 := Lib.hid (T2.out.below hb T2.out.lt)
          have L3 := Lib.hid (L2.out.trans (hb.mono L2.out.size))
          clear hb A2 Z2 L2 T2
          have A4 := Lib.hid (A3.out.setRow .u8 (mk 16 (shK (subK s))))
          have Z4 := Lib.hid (Z3.out.otherRow (C := w.heap.size) (by omega) (cellsOf .u8 (mk 16 (shK (subK s)))))
          have T4 := Lib.hid (T3.out.otherRow (C := w.heap.size) (by omega) (cellsOf .u8 (mk 16 (shK (subK s)))))
          have L4 := Lib.hid (below_setRow L3.out (g := w.heap.size) (by omega) (cellsOf .u8 (mk 16 (shK (subK s)))))
          go_wp2_with (first
        | (refine store_row_on rfl 65 _ _ rfl rfl w.heap.size (cellsOf .u8 (mk 16 (shK (subK s)))) rfl rfl 65 (cellsOf .u8 (mk 16 (s))) A3.out (keySize _) (by rw [cellsOf_size, cellsOf_size, mk_len, mk_len]) (cellsOf_one _ _) ?_)
        | (refine wpList_load_row rfl 65 _ rfl w.heap.size rfl 65 (cellsOf .u8 (mk 16 (shK (subK s)))) (0, 0) _ A4.out keyUnder rfl (keySize _) ?_)
        | (refine wpList_load_row rfl 65 _ rfl wr.heap.size rfl 65 (cellsOf .u8 (mk 16 (R i))) (0, 0) _ T4.out keyUnder rfl (keySize _) ?_)
        | fail)
          refine (Xor_any (shK (subK s)) (R i) k2 hr _).mono ?_
          rintro e wx ⟨rfl, hb⟩
          have A5 := Lib.hid (A4.out.below hb A4.out.lt)
          have Z5 := Lib.hid (Z4.out.below hb Z4.out.lt)
          have T5 := Lib.hid (T4.out.below hb T4.out.lt)
          have L5 := Lib.hid (L4.out.trans (hb.mono L4.out.size))
          clear hb A4 Z4 L4 T4
          have A6 := Lib.hid (A5.out.setRow .u8 (mk 16 (xorK (shK (subK s)) (R i))))
          have Z6 := Lib.hid (Z5.out.otherRow (C := w.heap.size) (by omega) (cellsOf .u8 (mk 16 (xorK (shK (subK s)) (R i)))))
          have T6 := Lib.hid (T5.out.otherRow (C := w.heap.size) (by omega) (cellsOf .u8 (mk 16 (xorK (shK (subK s)) (R i)))))
          have L6 := Lib.hid (below_setRow L5.out (g := w.heap.size) (by omega) (cellsOf .u8 (mk 16 (xorK (shK (subK s)) (R i)))))
          go_wp2_with (first
        | (refine store_row_on rfl 65 _ _ rfl rfl w.heap.size (cellsOf .u8 (mk 16 (xorK (shK (subK s)) (R i)))) rfl rfl 65 (cellsOf .u8 (mk 16 (shK (subK s)))) A5.out (keySize _) (by rw [cellsOf_size, cellsOf_size, mk_len, mk_len]) (cellsOf_one _ _) ?_)
        | fail)
          go_roundw
          case rel => exact ⟨i + 1, by omega, by go_num, by rw [HS.out, inE_last s h0 h1]; exact A6.out, Z6.out, L6.out⟩
          case measure => simp [intOf]; omega
    · obtain rfl : i = n := by omega
      have HA := Lib.hid ha
      have HZ := Lib.hid hz
      have HW := Lib.hid hw
      clear ha hz hw
      go_wp2_with (first
        | (refine wpList_load_row rfl 65 _ rfl w.heap.size rfl 65 (cellsOf .u8 (mk 16 (encTo R i f i))) (0, 0) _ HA.out keyUnder rfl (keySize _) ?_)
        | (refine wpList_store_row rfl 65 _ _ rfl (w.heap.size + 1) _ rfl rfl 65 (cellsOf .u8 (mk 16 zeroK)) HZ.out (keySize _) (by rw [cellsOf_size, cellsOf_size, mk_len, mk_len]) (cellsOf_one _ _) ?_))
      refine bodyPost_ret (results_cell_row rfl _ _ (w.heap.size + 1) 65 (cellsOf .u8 (mk 16 (encTo R i f i))) (0, 0) _ rfl (HZ.out.setRow .u8 (mk 16 (encTo R i f i))) keyUnder rfl (keySize _)) rfl ⟨rfl, below_setRow HW.out (by omega) _⟩
end Go.Proofs.Ytghdeedglekphaa

/- The contract of package cipher's Decrypt: it answers the key that the plain functions say, with any round keys, and writes nothing that was there. Conditions: all bytes are bytes; there are fewer than 2^32 round keys. -/
namespace Go.Proofs.Ytghdeedglekphaa
open Go.ChangeShapes Go.WideShapes Go.ChangeAt Go.RowKit

/-- An element's place in a slice. -/
theorem quiet_elem {o : Oper} {a : Act} {C : World → Prop} {K : Act → Prop} (t e : TypeId) (sz : Nat) (x y : Operand) (ho : o.op = .indexAddr t x y) (ht : Try.prog.underlying t = some (.slice e)) (hi : (Try.prog.info? e).map (·.size) = some sz)
    (B off n cap k : Nat) (hx : a.eval x = .slice (some ⟨B, off, none⟩) n cap) (hy : a.eval y = .int .i64 k) (hk4 : k < n)
    (hk : K (a.put o.dst (.pointer (some ⟨B, off + k * sz, none⟩)))) : o.quiet Try.prog a C K := by
  refine quiet_value _ (fun w _ => ?_) hk
  have h0 : (k : Int) < n := by omega
  cases hq : Try.prog.info? e with
  | none => simp [hq] at hi
  | some i =>
    have hs : i.size = sz := by simpa [hq] using hi
    unfold execOp
    simp only [ho, hx, hy]
    simp [go_sem, ht, h0, sizeOf, typeInfo, hq, hs, Addr.add]
theorem decTo_left {R : Nat → Nat → Nat} {n i : Nat} (f : Nat → Nat) (h : i < n) : decTo R n f (n - i) = inD n i (xorK (decTo R n f (n - (i + 1))) (R i)) := by
  rw [show n - i = (n - (i + 1)) + 1 by omega, decTo_step, show n - 1 - (n - (i + 1)) = i by omega]
theorem call_xor (args : Array Value) (w : World) : (callFunc 38 args).run Try.prog w = .ok (.enter 38 args) w := by simp [go_sem]
theorem keysUnder : Try.prog.underlying 61 = some (.slice 65) := Try.underlying61
attribute [local irreducible] inE inD encTo decTo xorK shK unK subK bakK colK mixK unmK

set_option maxRecDepth 100000 in
set_option maxHeartbeats 4000000 in
theorem Decrypt_any (p : Option Addr) (n cap : Nat) (R : Nat → Nat → Nat) (f : Nat → Nat) (hR : ∀ i, i < n → IsKey (R i)) (hf : IsKey f) (hn : n < 4294967296) (w : World) (hp : KeysAt w p n R) :
    Calls Try.prog 30 #[.slice p n cap, .agg (cellsOf .u8 (mk 16 f))] w fun e w' => e = .returned (.agg (cellsOf .u8 (mk 16 (decK R n f)))) ∧ Below w.heap.size w w' := by
  have q1 : IntKind.i64.wrap ((n : Int) - 1) = (n : Int) - 1 := IntWalk.i64_in _ (by omega)
  rw [decK_is]
  go_enter Try.func30, Try.ntmps30
  go_wp2
  go_loopw [6] (fun v6 wr => ∃ (m : Nat) (z : Int), m ≤ n ∧ z + 1 = m ∧ v6 = .int .i64 z ∧ IntBlk wr w.heap.size .u8 65 (mk 16 (decTo R n f (n - m))) ∧ IntBlk wr (w.heap.size + 1) .u8 65 (mk 16 zeroK) ∧ Below w.heap.size w wr) (fun v6 _ => (intOf v6 + 1).toNat)
  case atStart => exact ⟨n, (n : Int) - 1, by omega, by omega, rfl, by rw [Nat.sub_self, decTo_zero]; exact (IntBlk.new w .u8 65 (mk 16 f)).alloc _, blk_two w .u8 65 (mk 16 zeroK) _, below_two w _ _⟩
  case round =>
    obtain ⟨m, z, hm, hz1, rfl, ha, hz, hw⟩ := hrel
    have hs : w.heap.size + 1 < wr.heap.size := hz.lt
    cases m with
    | zero =>
      obtain rfl : z = -1 := by omega
      have HA := Lib.hid ha
      have HZ := Lib.hid hz
      have HW := Lib.hid hw
      clear ha hz hw hz1 hm
      go_wp2_with (first
        | (refine wpList_load_row rfl 65 _ rfl w.heap.size rfl 65 (cellsOf .u8 (mk 16 (decTo R n f n))) (0, 0) _ HA.out keyUnder rfl (keySize _) ?_)
        | (refine wpList_store_row rfl 65 _ _ rfl (w.heap.size + 1) _ rfl rfl 65 (cellsOf .u8 (mk 16 zeroK)) HZ.out (keySize _) (by rw [cellsOf_size, cellsOf_size, mk_len, mk_len]) (cellsOf_one _ _) ?_))
      refine bodyPost_ret (results_cell_row rfl _ _ (w.heap.size + 1) 65 (cellsOf .u8 (mk 16 (decTo R n f n))) (0, 0) _ rfl (HZ.out.setRow .u8 (mk 16 (decTo R n f n))) keyUnder rfl (keySize _)) rfl ⟨rfl, below_setRow HW.out (by omega) _⟩
    | succ i =>
      obtain rfl : z = i := by omega
      rcases hp with hp | ⟨B, o, rfl, hB, hc⟩
      · omega
      have hk := decTo_key hR hf (n - (i + 1)) (by omega)
      have hr := hR i hm
      have CR := Lib.hid (fun (w' : World) (h : Below wr.heap.size wr w') => ((hc i hm).below hw hB).below h (by have := hw.size; omega))
      have HS := Lib.hid (decTo_left (R := R) f hm)
      have AC := Lib.hid (fun (w' : World) (h : Below wr.heap.size wr w') => ha.below h ha.lt)
      have ZC := Lib.hid (fun (w' : World) (h : Below wr.heap.size wr w') => hz.below h hz.lt)
      have LC := Lib.hid (fun (w' : World) (h : Below wr.heap.size wr w') => hw.trans (h.mono hw.size))
      clear ha hz hw hc hz1
      generalize decTo R n f (n - (i + 1)) = s at *
      have kx := xorK_key hk hr
      have k1 := unmCol_key kx
      have k2 := unK_key k1
      have k3 := unK_key kx
      have e1 : i < n := hm
      go_wp2
      refine wp_region_class_tail 6 (fun w' => Below wr.heap.size wr w') (by kernel_rfl) (by kernel_rfl) ((Below.refl _ _).drew) ?_
      simp only [List.take_succ_cons, List.take_zero, List.drop_succ_cons, List.drop_zero]
      iterate 6 (first
        | go_big_quiet_skip
        | (go_big_quiet_want
           first
             | (go_big_quiet_op; go_big_quiet_on)
             | ((first
                 | (refine quiet_load _ rfl w.heap.size s rfl AC.out ?_)
                 | (refine quiet_elem 61 65 16 _ _ rfl keysUnder keyInfo B o n cap i rfl rfl e1 ?_)
                 | (refine quiet_load_part 65 _ rfl B (o + i * 16) 16 (R i) rfl _ CR.out keyUnder rfl keyInfo ?_)
                 | (refine quiet_keys _ _ _ _ rfl 38 rfl s rfl (R i) rfl _ call_xor (class_of (Xor_any s (R i) hk hr)) ?_)); go_simp; go_big_quiet_on)))
      refine wpQuiet_nil ?_
      intro wx hwx
      have A1 := Lib.hid (AC.out _ hwx)
      have Z1 := Lib.hid (ZC.out _ hwx)
      have L1 := Lib.hid (LC.out _ hwx)
      clear hwx AC ZC LC CR
      by_cases h0 : i = 0
      · have d1 : decide (0 < i) = false := by simp; omega
        have d3 : decide ((0 : Int) < (i : Int)) = false := by simp; omega
        have H0 := Lib.hid h0; clear h0
        have A2 := Lib.hid (A1.out.setRow .u8 (mk 16 (xorK s (R i))))
        have Z2 := Lib.hid (Z1.out.otherRow (C := w.heap.size) (by omega) (cellsOf .u8 (mk 16 (xorK s (R i)))))
        have L2 := Lib.hid (below_setRow L1.out (g := w.heap.size) (by omega) (cellsOf .u8 (mk 16 (xorK s (R i)))))
        go_wp2_with (first
        | (refine store_row_on rfl 65 _ _ rfl rfl w.heap.size (cellsOf .u8 (mk 16 (xorK s (R i)))) rfl rfl 65 (cellsOf .u8 (mk 16 (s))) A1.out (keySize _) (by rw [cellsOf_size, cellsOf_size, mk_len, mk_len]) (cellsOf_one _ _) ?_)
        | fail)
        go_roundw
        case rel => exact ⟨i, (i : Int) - 1, by omega, by omega, rfl, by rw [HS.out, inD_zero _ H0.out]; exact A2.out, Z2.out, L2.out⟩
        case measure => simp [intOf]
      · have d1 : decide ((0 : Int) < (i : Int)) = true := by simp; omega
        by_cases h1 : i + 1 < n
        · have d2 : decide ((i : Int) < (n : Int) - 1) = true := by simp; omega
          have A2 := Lib.hid (A1.out.setRow .u8 (mk 16 (xorK s (R i))))
          have Z2 := Lib.hid (Z1.out.otherRow (C := w.heap.size) (by omega) (cellsOf .u8 (mk 16 (xorK s (R i)))))
          have L2 := Lib.hid (below_setRow L1.out (g := w.heap.size) (by omega) (cellsOf .u8 (mk 16 (xorK s (R i)))))
          go_wp2_with (first
        | (refine store_row_on rfl 65 _ _ rfl rfl w.heap.size (cellsOf .u8 (mk 16 (xorK s (R i)))) rfl rfl 65 (cellsOf .u8 (mk 16 (s))) A1.out (keySize _) (by rw [cellsOf_size, cellsOf_size, mk_len, mk_len]) (cellsOf_one _ _) ?_)
        | (refine wpList_load_row rfl 65 _ rfl w.heap.size rfl 65 (cellsOf .u8 (mk 16 (xorK s (R i)))) (0, 0) _ A2.out keyUnder rfl (keySize _) ?_)
        | fail)
          refine (unmCols_any (xorK s (R i)) kx _).mono ?_
          rintro e w2 ⟨rfl, hb⟩
          have A3 := Lib.hid (A2.out.below hb A2.out.lt)
          have Z3 := Lib.hid (Z2.out.below hb Z2.out.lt)
          have L3 := Lib.hid (L2.out.trans (hb.mono L2.out.size))
          clear hb A2 Z2 L2
          have A4 := Lib.hid (A3.out.setRow .u8 (mk 16 (colK unmK (xorK s (R i)))))
          have Z4 := Lib.hid (Z3.out.otherRow (C := w.heap.size) (by omega) (cellsOf .u8 (mk 16 (colK unmK (xorK s (R i))))))
          have L4 := Lib.hid (below_setRow L3.out (g := w.heap.size) (by omega) (cellsOf .u8 (mk 16 (colK unmK (xorK s (R i))))))
          go_wp2_with (first
        | (refine store_row_on rfl 65 _ _ rfl rfl w.heap.size (cellsOf .u8 (mk 16 (colK unmK (xorK s (R i))))) rfl rfl 65 (cellsOf .u8 (mk 16 (xorK s (R i)))) A3.out (keySize _) (by rw [cellsOf_size, cellsOf_size, mk_len, mk_len]) (cellsOf_one _ _) ?_)
        | (refine wpList_load_row rfl 65 _ rfl w.heap.size rfl 65 (cellsOf .u8 (mk 16 (colK unmK (xorK s (R i))))) (0, 0) _ A4.out keyUnder rfl (keySize _) ?_)
        | fail)
          refine (Unshift_any (colK unmK (xorK s (R i))) k1 _).mono ?_
          rintro e w3 ⟨rfl, hb⟩
          have A5 := Lib.hid (A4.out.below hb A4.out.lt)
          have Z5 := Lib.hid (Z4.out.below hb Z4.out.lt)
          have L5 := Lib.hid (L4.out.trans (hb.mono L4.out.size))
          clear hb A4 Z4 L4
          go_wp2_with (first
        | fail)
          refine (backAll_k (unK (colK unmK (xorK s (R i)))) k2 _).mono ?_
          rintro e w4 ⟨rfl, hb⟩
          have A6 := Lib.hid (A5.out.below hb A5.out.lt)
          have Z6 := Lib.hid (Z5.out.below hb Z5.out.lt)
          have L6 := Lib.hid (L5.out.trans (hb.mono L5.out.size))
          clear hb A5 Z5 L5
          have A7 := Lib.hid (A6.out.setRow .u8 (mk 16 (bakK (unK (colK unmK (xorK s (R i)))))))
          have Z7 := Lib.hid (Z6.out.otherRow (C := w.heap.size) (by omega) (cellsOf .u8 (mk 16 (bakK (unK (colK unmK (xorK s (R i))))))))
          have L7 := Lib.hid (below_setRow L6.out (g := w.heap.size) (by omega) (cellsOf .u8 (mk 16 (bakK (unK (colK unmK (xorK s (R i))))))))
          go_wp2_with (first
        | (refine store_row_on rfl 65 _ _ rfl rfl w.heap.size (cellsOf .u8 (mk 16 (bakK (unK (colK unmK (xorK s (R i))))))) rfl rfl 65 (cellsOf .u8 (mk 16 (colK unmK (xorK s (R i))))) A6.out (keySize _) (by rw [cellsOf_size, cellsOf_size, mk_len, mk_len]) (cellsOf_one _ _) ?_)
        | fail)
          go_roundw
          case rel => exact ⟨i, (i : Int) - 1, by omega, by omega, rfl, by rw [HS.out, inD_mid _ h0 h1]; exact A7.out, Z7.out, L7.out⟩
          case measure => simp [intOf]
        · have d2 : decide ((i : Int) < (n : Int) - 1) = false := by simp; omega
          have A2 := Lib.hid (A1.out.setRow .u8 (mk 16 (xorK s (R i))))
          have Z2 := Lib.hid (Z1.out.otherRow (C := w.heap.size) (by omega) (cellsOf .u8 (mk 16 (xorK s (R i)))))
          have L2 := Lib.hid (below_setRow L1.out (g := w.heap.size) (by omega) (cellsOf .u8 (mk 16 (xorK s (R i)))))
          go_wp2_with (first
        | (refine store_row_on rfl 65 _ _ rfl rfl w.heap.size (cellsOf .u8 (mk 16 (xorK s (R i)))) rfl rfl 65 (cellsOf .u8 (mk 16 (s))) A1.out (keySize _) (by rw [cellsOf_size, cellsOf_size, mk_len, mk_len]) (cellsOf_one _ _) ?_)
        | (refine wpList_load_row rfl 65 _ rfl w.heap.size rfl 65 (cellsOf .u8 (mk 16 (xorK s (R i)))) (0, 0) _ A2.out keyUnder rfl (keySize _) ?_)
        | fail)
          refine (Unshift_any (xorK s (R i)) kx _).mono ?_
          rintro e w3 ⟨rfl, hb⟩
          have A3 := Lib.hid (A2.out.below hb A2.out.lt)
          have Z3 := Lib.hid (Z2.out.below hb Z2.out.lt)
          have L3 := Lib.hid (L2.out.trans (hb.mono L2.out.size))
          clear hb A2 Z2 L2
          go_wp2_with (first
        | fail)
          refine (backAll_k (unK (xorK s (R i))) k3 _).mono ?_
          rintro e w4 ⟨rfl, hb⟩
          have A4 := Lib.hid (A3.out.below hb A3.out.lt)
          have Z4 := Lib.hid (Z3.out.below hb Z3.out.lt)
          have L4 := Lib.hid (L3.out.trans (hb.mono L3.out.size))
          clear hb A3 Z3 L3
          have A5 := Lib.hid (A4.out.setRow .u8 (mk 16 (bakK (unK (xorK s (R i))))))
          have Z5 := Lib.hid (Z4.out.otherRow (C := w.heap.size) (by omega) (cellsOf .u8 (mk 16 (bakK (unK (xorK s (R i)))))))
          have L5 := Lib.hid (below_setRow L4.out (g := w.heap.size) (by omega) (cellsOf .u8 (mk 16 (bakK (unK (xorK s (R i)))))))
          go_wp2_with (first
        | (refine store_row_on rfl 65 _ _ rfl rfl w.heap.size (cellsOf .u8 (mk 16 (bakK (unK (xorK s (R i)))))) rfl rfl 65 (cellsOf .u8 (mk 16 (xorK s (R i)))) A4.out (keySize _) (by rw [cellsOf_size, cellsOf_size, mk_len, mk_len]) (cellsOf_one _ _) ?_)
        | fail)
          go_roundw
          case rel => exact ⟨i, (i : Int) - 1, by omega, by omega, rfl, by rw [HS.out, inD_last _ h0 h1]; exact A5.out, Z5.out, L5.out⟩
          case measure => simp [intOf]
end Go.Proofs.Ytghdeedglekphaa

/- Results of two values; the key of noughts; an error's number taken out of its interface. No condition. -/
namespace Go.Proofs.Ytghdeedglekphaa
open Go.ChangeShapes Go.WideShapes Go.ChangeAt Go.RowKit

theorem results_cell_row_tmp {P : Program} {fn : Func} {p u : Tmp} {ty : TypeId} (h : fn.results = #[.cell p ty, .tmp u]) (tmps : Array Value) (w : World) (g : Nat) (t : TypeId) (cs : Array Value) (fr : Nat × Nat) (d : TypeDesc)
    (hp : tmps.getD p undef = .pointer (some ⟨g, 0, none⟩)) (hg : w.heap[g]? = some (.cells cs t fr)) (hu : P.underlying ty = some d) (hd : (match d with | .struct _ | .array _ _ => true | _ => false) = true) (hi : (P.info? ty).map (·.size) = some cs.size) :
    (results fn tmps).run P w = .ok (.tuple #[.agg cs, tmps.getD u undef]) w := by
  rw [results_cell_tmp h, hp]
  simp only [asAddr, Sem.run_pure, Result.andThen_ok, run_loadVar_row w g t ty cs fr d hg hu hd hi]
theorem zero_built : Try.prog.built 65 [] = some (cellsOf .u8 (mk 16 zeroK)) := by kernel_rfl
theorem assert_key (v : Value) (w : World) : (Instr.typeAssert (.iface 33 v) 29 33 true).run Try.prog w = .ok (.tuple #[v, .bool true]) w := by
  simp [Instr.typeAssert, run_underlying Try.underlying33]
end Go.Proofs.Ytghdeedglekphaa

/- Plain mathematics of blocks encrypted and decrypted: each undoes the other. Condition: all bytes are bytes. -/
namespace Go.Proofs.Ytghdeedglekphaa
open Go

/-- A block sealed (opened, where b says so) with round keys. -/
def cipB (b : Bool) (R : Nat → Nat → Nat) (T : Nat) (f : Nat → Nat) : Nat → Nat := if b then decK R T f else encK R T f
theorem cipB_key {b : Bool} {R : Nat → Nat → Nat} {T : Nat} {f : Nat → Nat} (hR : ∀ i, i < T → IsKey (R i)) (hf : IsKey f) : IsKey (cipB b R T f) := by
  unfold cipB; split
  · exact decTo_key hR hf T (Nat.le_refl _)
  · exact encTo_key hR hf T (Nat.le_refl _)
theorem eq_encTo {f g : Nat → Nat} (R : Nat → Nat → Nat) (n : Nat) (h : EqK f g) : ∀ i, EqK (encTo R n f i) (encTo R n g i)
  | 0 => h
  | i + 1 => eq_xor (eq_inE n i (eq_encTo R n h i))
theorem eq_decTo {f g : Nat → Nat} (R : Nat → Nat → Nat) (n : Nat) (h : EqK f g) : ∀ d, EqK (decTo R n f d) (decTo R n g d)
  | 0 => h
  | d + 1 => eq_inD n (n - 1 - d) (eq_xor (eq_decTo R n h d))
theorem eq_cip {f g : Nat → Nat} (b : Bool) (R : Nat → Nat → Nat) (T : Nat) (h : EqK f g) : EqK (cipB b R T f) (cipB b R T g) := by
  unfold cipB; split
  · exact eq_decTo R T h T
  · exact eq_encTo R T h T
theorem eq_xorL {f g : Nat → Nat} (a : Nat → Nat) (h : EqK f g) : EqK (xorK a f) (xorK a g) := fun j hj => by unfold xorK; rw [h j hj]
theorem xor_comm (f g : Nat → Nat) : xorK f g = xorK g f := funext fun _ => Nat.xor_comm _ _
theorem xor_back (a f : Nat → Nat) : EqK (xorK a (xorK a f)) f := fun j _ => by
  show a j ^^^ (a j ^^^ f j) = f j
  rw [← Nat.xor_assoc, Nat.xor_self, Nat.zero_xor]
theorem cip_back {b : Bool} {R : Nat → Nat → Nat} {T : Nat} {f : Nat → Nat} (hR : ∀ i, i < T → IsKey (R i)) (hf : IsKey f) : EqK (cipB (!b) R T (cipB b R T f)) f := by
  cases b
  · have := dec_from hR hf T (Nat.le_refl T)
    rw [Nat.sub_self] at this; exact this
  · have := enc_from hR hf T (Nat.le_refl T)
    rw [Nat.sub_self] at this; exact this
end Go.Proofs.Ytghdeedglekphaa

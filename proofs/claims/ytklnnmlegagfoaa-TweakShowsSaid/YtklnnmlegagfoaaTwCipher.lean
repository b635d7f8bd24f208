/- TwCipher: merged by merge.py out of QuietC FieldC SubC SubK QuietB XorC DblC Powers LoopS ConstC RotC ShiftC MixC ColC AddC MixNum EncNum EncC DecC Ref1 RefConst RoundsNum TurnC OpenS SchedC RoundsC SealT TwkC TwNum. Conditions: as each part says. -/
import Derived.Test.YtklnnmlegagfoaaTwBase
import Derived.Test.YtklnnmlegagfoaaRows
import Derived.WalkKit
import Derived.ProofKit
import Derived.OpenShut
import Derived.Lib.Hide
import Derived.Outline
import Derived.StillTailTactics
import Derived.RangeFuncNested
import Derived.RangeFuncBound
import Derived.RangeFuncCalls
import Derived.RangeFuncLeaves
import Derived.Shelf.Abstract
import Derived.Shelf.RegionOpen
import Derived.OwnWalkIn
import Derived.TacticsInMore
import Derived.LoopNIn
import Derived.LoopIn
import Derived.Deep.LoopGhost
import Derived.Great.BuildSlice
import Derived.Deep.Slices
import Derived.Laws.MakeOwn
import Derived.Laws.ResultCell
/- Laws for regions whose order Go leaves open: an array built of known parts, a pick that is true or false, arrays compared either way. No condition. -/
namespace Go.Proofs.Ytklnnmlegagfoaa
open Go.ChangeShapes Go.WideShapes Go.ChangeAt Go.RowKit

/-- An array of bytes, or a key, built of known parts. -/
theorem quiet_built {o : Oper} {a : Act} {C : World → Prop} {K : Act → Prop} (ty : TypeId) (xs : List (Nat × Operand)) (ho : o.op = .build ty ⟨xs⟩) (ys : List (Nat × Value)) (hx : xs.map (fun p => (p.1, a.eval p.2)) = ys) (n : Nat) (f : Nat → Nat)
    (hf : Try.prog.built ty ys = some (cellsOf .u8 (mk n f))) (hk : K (a.put o.dst (.agg (cellsOf .u8 (mk n f))))) : o.quiet Try.prog a C K := by
  refine quiet_value _ (fun w _ => ?_) hk
  have e := run_build w ty (xs.map (fun p => (p.1, a.eval p.2))).toArray (cellsOf .u8 (mk n f)) (by rw [hx]; exact hf)
  unfold execOp
  simp only [ho]
  rw [Sem.run_bind]
  simp only [List.map_toArray] at *
  rw [e]; rfl
theorem quiet_pick_true {o : Oper} {a : Act} {C : World → Prop} {K : Act → Prop} (c x y : Operand) (ho : o.op = .pick c x y) (hc : a.eval c = .bool false) (b : Bool) (hy : a.eval y = .bool b) (hk : K (a.put o.dst (.bool b))) : o.quiet Try.prog a C K := by
  refine quiet_value _ (fun w _ => ?_) hk
  unfold execOp
  simp only [ho, hc, hy]
  simp [go_sem]
theorem quiet_neq {o : Oper} {a : Act} {C : World → Prop} {K : Act → Prop} (x y : Operand) (ho : o.op = .binOp .neq 25 x y 25) (f g : Nat → Nat)
    (hx : a.eval x = .agg (cellsOf .u8 (mk 16 f))) (hy : a.eval y = .agg (cellsOf .u8 (mk 16 g))) (h : mk 16 f = mk 16 g) (hk : K (a.put o.dst (.bool false))) : o.quiet Try.prog a C K := by
  refine quiet_value (.bool false) (fun w _ => ?_) hk
  have e := key_eq g g w
  unfold execOp
  simp only [ho, hx, hy]
  simp [go_sem, e, h]
theorem quiet_word_neq {o : Oper} {a : Act} {C : World → Prop} {K : Act → Prop} (x y : Operand) (ho : o.op = .binOp .neq 80 x y 80) (f g : Nat → Nat)
    (hx : a.eval x = .agg (cellsOf .u8 (mk 4 f))) (hy : a.eval y = .agg (cellsOf .u8 (mk 4 g))) (h : mk 4 f = mk 4 g) (hk : K (a.put o.dst (.bool false))) : o.quiet Try.prog a C K := by
  refine quiet_value (.bool false) (fun w _ => ?_) hk
  have e := word_eq g g w
  unfold execOp
  simp only [ho, hx, hy]
  simp [go_sem, e, h]
/-- A call of a function of two words. -/
theorem quiet_words {o : Oper} {a : Act} {C : World → Prop} {K : Act → Prop} (x y z : Operand) (ts : Array TypeId) (ho : o.op = .call { callee := .value x, args := #[y, z], argTypes := ts }) (g : FuncId) (hx : a.eval x = .func (.func g) #[] #[])
    (f : Nat → Nat) (hy : a.eval y = .agg (cellsOf .u8 (mk 4 f))) (f' : Nat → Nat) (hz : a.eval z = .agg (cellsOf .u8 (mk 4 f'))) (r : Nat → Nat) (hf : ∀ (args : Array Value) (w : World), (callFunc g args).run Try.prog w = .ok (.enter g args) w)
    (hc : ∀ w, C w → Calls Try.prog g #[.agg (cellsOf .u8 (mk 4 f)), .agg (cellsOf .u8 (mk 4 f'))] w fun e w' => e = .returned (.agg (cellsOf .u8 (mk 4 r))) ∧ C w') (hk : K (a.put o.dst (.agg (cellsOf .u8 (mk 4 r))))) : o.quiet Try.prog a C K :=
  quiet_calls x #[y, z] ts ho g _ _ hx (by simp only [List.map_toArray, List.map_cons, List.map_nil, hy, hz]) (fun w => hf _ w) hc hk
end Go.Proofs.Ytklnnmlegagfoaa

/- The contracts of package field's Twice, Mul and Inv: each answers the byte that Num's function says and leaves the world as it is. Conditions: the arguments are bytes. -/
namespace Go.Proofs.Ytklnnmlegagfoaa
open Go.ChangeShapes Go.WideShapes Go.ChangeAt Go.RowKit

theorem Twice_any (b : Int) (h0 : 0 ≤ b) (h1 : b ≤ 255) (w : World) :
    Calls Try.prog 82 #[.int .u8 b] w fun e w' => e = .returned (.int .u8 (twI b)) ∧ w = w' := by
  by_cases h : b < 128
  · have ht : (bits .and .u8 b 128 != 0) = false := by rw [top_low h0 h]; rfl
    have e := Lib.hid (twI_low h0 h)
    go_enter Try.func82, Try.ntmps82
    go_wp2
    go_ret
    rw [e.out]; exact ⟨rfl, rfl⟩
  · have ht : (bits .and .u8 b 128 != 0) = true := by rw [top_high (by omega) h1]; rfl
    have e := Lib.hid (twI_high (Int.not_lt.mp h) h1)
    go_enter Try.func82, Try.ntmps82
    go_wp2
    go_ret
    rw [e.out]; exact ⟨rfl, rfl⟩

/-- The loop's steps on Go's integers: what is left to come of the product. -/
def restI (n : Nat) (a b s : Int) : Int := (mulS n a.toNat b.toNat s.toNat : Nat)
theorem restI_odd {n : Nat} {a b s : Int} (h0 : 0 ≤ b) (ho : b % 2 = 1) : restI (n + 1) a b s = restI n (twI a) (b / 2) (xorI s a) := by
  unfold restI twI xorI; rw [Int.toNat_natCast, Int.toNat_natCast]
  show ((mulS n (tw a.toNat) (b.toNat / 2) (if b.toNat % 2 = 1 then s.toNat ^^^ a.toNat else s.toNat) : Nat) : Int) = _
  rw [if_pos (by omega), show (b / 2).toNat = b.toNat / 2 by omega]
theorem restI_even {n : Nat} {a b s : Int} (h0 : 0 ≤ b) (ho : b % 2 = 0) : restI (n + 1) a b s = restI n (twI a) (b / 2) s := by
  unfold restI twI; rw [Int.toNat_natCast]
  show ((mulS n (tw a.toNat) (b.toNat / 2) (if b.toNat % 2 = 1 then s.toNat ^^^ a.toNat else s.toNat) : Nat) : Int) = _
  rw [if_neg (by omega), show (b / 2).toNat = b.toNat / 2 by omega]
theorem restI_zero {n : Nat} {a s : Int} (h : 0 ≤ s) : restI n a 0 s = s := by
  unfold restI; rw [show (0 : Int).toNat = 0 from rfl, mulS_zero]; omega
theorem restI_all (a b : Int) : restI 8 a b 0 = mulI a b := rfl

set_option maxHeartbeats 400000 in
theorem Mul_any (a b : Int) (h0 : 0 ≤ a) (h1 : a ≤ 255) (g0 : 0 ≤ b) (g1 : b ≤ 255) (w : World) :
    Calls Try.prog 76 #[.int .u8 a, .int .u8 b] w fun e w' => e = .returned (.int .u8 (mulI a b)) ∧ w = w' := by
  go_enter Try.func76, Try.ntmps76
  go_wp2
  go_loop [0, 1, 5] (fun va vb vs => ∃ (n : Nat) (x y s : Int), 0 ≤ x ∧ x ≤ 255 ∧ 0 ≤ y ∧ y ≤ 255 ∧ y < 2 ^ n ∧ 0 ≤ s ∧ s ≤ 255 ∧ va = .int .u8 x ∧ vb = .int .u8 y ∧ vs = .int .u8 s ∧ restI n x y s = mulI a b) (fun _ vb _ => (intOf vb).toNat)
  case atStart => exact ⟨8, a, b, 0, h0, h1, g0, g1, by omega, by omega, by omega, rfl, rfl, rfl, restI_all a b⟩
  case round =>
    obtain ⟨n, x, y, s, x0, x1, y0, y1, yn, s0, s1, rfl, rfl, rfl, hr⟩ := hrel
    have HR := Lib.hid hr; clear hr
    by_cases hz : y = 0
    · subst hz
      go_wp2
      go_ret
      rw [← HR.out, restI_zero s0]; exact ⟨rfl, rfl⟩
    · have hnz : (y != 0) = true := by simpa using hz
      obtain ⟨m, rfl⟩ : ∃ m, n = m + 1 := by
        cases n with
        | zero => exfalso; simp at yn; omega
        | succ m => exact ⟨m, rfl⟩
      have ym : y / 2 < 2 ^ m := by have := Int.pow_succ 2 m; omega
      have tb := twI_bd (b := x) x1
      by_cases ho : y % 2 = 1
      · have HN := Lib.hid (restI_odd (n := m) (a := x) (s := s) y0 ho)
        have hb : (bits .and .u8 y 1 != 0) = true := by rw [low_bit y0 y1, ho]; rfl
        have HX := Lib.hid (xorI_bits s0 s1 x0 x1)
        have sb := xorI_bd (a := s) (b := x) s1 x1
        clear ho yn
        go_wp2_with (go_at_call 82; refine (Twice_any _ (by omega) (by omega) _).mono ?_; rintro e w' ⟨rfl, rfl⟩)
        go_round
        case rel => exact ⟨m, twI x, y / 2, xorI s x, by omega, by omega, by omega, by omega, ym, by omega, by omega, rfl, rfl, by rw [HX.out], by rw [← HN.out]; exact HR.out⟩
        case measure => simp [intOf]; omega
      · have he : y % 2 = 0 := by omega
        have HN := Lib.hid (restI_even (n := m) (a := x) (s := s) y0 he)
        have hb : (bits .and .u8 y 1 != 0) = false := by rw [low_bit y0 y1, he]; rfl
        clear ho he yn
        go_wp2_with (go_at_call 82; refine (Twice_any _ (by omega) (by omega) _).mono ?_; rintro e w' ⟨rfl, rfl⟩)
        go_round
        case rel => exact ⟨m, twI x, y / 2, s, by omega, by omega, by omega, by omega, ym, by omega, by omega, rfl, rfl, rfl, by rw [← HN.out]; exact HR.out⟩
        case measure => simp [intOf]; omega

/-- What is left to come of the inverse. -/
def restV (n : Nat) (b p : Int) : Int := (invS n b.toNat p.toNat : Nat)
theorem restV_step (n : Nat) (b p : Int) : restV (n + 1) b p = restV n (mulI b b) (mulI p (mulI b b)) := by
  unfold restV mulI; rw [Int.toNat_natCast, Int.toNat_natCast]; rfl
theorem restV_end (b p : Int) (h : 0 ≤ p) : restV 0 b p = p := by unfold restV; show ((p.toNat : Nat) : Int) = p; omega
theorem restV_all (b : Int) : restV 7 b 1 = invI b := rfl

set_option maxHeartbeats 400000 in
theorem Inv_any (b : Int) (h0 : 0 ≤ b) (h1 : b ≤ 255) (w : World) :
    Calls Try.prog 75 #[.int .u8 b] w fun e w' => e = .returned (.int .u8 (invI b)) ∧ w = w' := by
  go_enter Try.func75, Try.ntmps75
  go_wp2
  go_loop [0, 3, 4] (fun vb vp vi => ∃ (k : Nat) (x p : Int), k ≤ 7 ∧ 0 ≤ x ∧ x ≤ 255 ∧ 0 ≤ p ∧ p ≤ 255 ∧ vb = .int .u8 x ∧ vp = .int .u8 p ∧ vi = .int .i64 k ∧ restV (7 - k) x p = invI b) (fun _ _ vi => 7 - (intOf vi).toNat)
  case atStart => exact ⟨0, b, 1, by omega, h0, h1, by omega, by omega, rfl, rfl, rfl, restV_all b⟩
  case round =>
    obtain ⟨k, x, p, hk, x0, x1, p0, p1, rfl, rfl, rfl, hr⟩ := hrel
    have HR := Lib.hid hr; clear hr
    by_cases hz : k < 7
    · have HN : Hid (restV (7 - k) x p = restV (7 - (k + 1)) (mulI x x) (mulI p (mulI x x))) := by
        have e : 7 - k = (7 - (k + 1)) + 1 := by omega
        unfold Hid; rw [e]; exact restV_step _ _ _
      have b1 := mulI_bd (a := x) (b := x) x1
      have b2 := mulI_bd (a := p) (b := mulI x x) p1
      go_wp2_with (go_at_call 76; refine (Mul_any _ _ (by omega) (by omega) (by omega) (by omega) _).mono ?_; rintro e w' ⟨rfl, rfl⟩)
      go_round
      case rel => exact ⟨k + 1, mulI x x, mulI p (mulI x x), by omega, by omega, by omega, by omega, by omega, rfl, rfl, by go_num, by rw [← HN.out]; exact HR.out⟩
      case measure => simp [intOf]; omega
    · obtain rfl : k = 7 := by omega
      go_wp2
      go_ret
      rw [← HR.out, show 7 - 7 = 0 from rfl, restV_end _ _ p0]; exact ⟨rfl, rfl⟩
end Go.Proofs.Ytklnnmlegagfoaa

/- The contracts of package sbox's functions of bytes: each answers the byte that SubNum's function says and leaves the world as it is. Conditions: the arguments are bytes. -/
namespace Go.Proofs.Ytklnnmlegagfoaa
open Go.ChangeShapes Go.WideShapes Go.ChangeAt Go.RowKit

set_option maxHeartbeats 400000 in
theorem Rot_any (b : Int) (k : Nat) (h0 : 0 ≤ b) (h1 : b ≤ 255) (k0 : 1 ≤ k) (k1 : k ≤ 6) (w : World) :
    Calls Try.prog 81 #[.int .u8 b, .int .i64 k] w fun e w' => e = .returned (.int .u8 (rotI b k)) ∧ w = w' := by
  have E := Lib.hid (fun x y hx hy => rotI_or (b := b) (k := k) h0 h1 (by omega) (x := x) (y := y) hx hy)
  have A1 : bits .and .u64 1 7 = 1 := by decide +kernel
  have A2 : bits .and .u64 2 7 = 2 := by decide +kernel
  have A3 : bits .and .u64 3 7 = 3 := by decide +kernel
  have A4 : bits .and .u64 4 7 = 4 := by decide +kernel
  have A5 : bits .and .u64 5 7 = 5 := by decide +kernel
  have A6 : bits .and .u64 6 7 = 6 := by decide +kernel
  rcases (show k = 1 ∨ k = 2 ∨ k = 3 ∨ k = 4 ∨ k = 5 ∨ k = 6 by omega) with rfl | rfl | rfl | rfl | rfl | rfl
  all_goals
    go_enter Try.func81, Try.ntmps81
    go_wp2
    go_ret
    refine ⟨?_, rfl⟩
    rw [← E.out _ _ rfl rfl]
    rfl

def sprTo (b : Int) : Nat → Int
  | 0 => b
  | k + 1 => xorI (sprTo b k) (rotI b (k + 1))
theorem sprTo_end (b : Int) : sprTo b 4 = sprI b := (sprI_step b).symm
theorem sprTo_bd {b : Int} (h0 : 0 ≤ b) (h1 : b ≤ 255) : ∀ k, k ≤ 4 → 0 ≤ sprTo b k ∧ sprTo b k ≤ 255
  | 0, _ => ⟨h0, h1⟩
  | k + 1, hk => xorI_bd (sprTo_bd h0 h1 k (by omega)).2 (rotI_bd h1 (by omega)).2

set_option maxHeartbeats 400000 in
theorem spread_any (b : Int) (h0 : 0 ≤ b) (h1 : b ≤ 255) (w : World) :
    Calls Try.prog 74 #[.int .u8 b] w fun e w' => e = .returned (.int .u8 (sprI b)) ∧ w = w' := by
  go_enter Try.func74, Try.ntmps74
  go_wp2
  go_loop [3, 4] (fun vs vn => ∃ (k n : Nat), k ≤ 4 ∧ n = k + 1 ∧ vs = .int .u8 (sprTo b k) ∧ vn = .int .i64 n) (fun _ vn => 5 - (intOf vn).toNat)
  case atStart => exact ⟨0, 1, by omega, rfl, rfl, rfl⟩
  case round =>
    obtain ⟨k, n, hk, hn, rfl, rfl⟩ := hrel
    by_cases hz : n ≤ 4
    · have sb := sprTo_bd h0 h1 k hk
      have rb := rotI_bd (b := b) (k := n) h1 (by omega)
      have HX : bits .xor .u8 (sprTo b k) (rotI b n) = xorI (sprTo b k) (rotI b n) := xorI_bits sb.1 sb.2 rb.1 rb.2
      have HN := Lib.hid hn; clear hn
      go_wp2_with (go_at_call 81; refine (Rot_any _ _ h0 h1 (by have := HN.out; omega) (by omega) _).mono ?_; rintro e w' ⟨rfl, rfl⟩)
      go_round
      case rel => exact ⟨k + 1, n + 1, by have := HN.out; omega, by rw [HN.out], by rw [HN.out]; rfl, by go_num⟩
      case measure => simp [intOf]; omega
    · obtain rfl : k = 4 := by omega
      obtain rfl : n = 5 := hn
      have hd : decide (((5 : Nat) : Int) ≤ 4) = false := rfl
      go_wp2
      go_ret
      rw [sprTo_end]; exact ⟨rfl, rfl⟩

/-- The same at an integer. -/
def rotZ (b k : Int) : Int := rotI b k.toNat
theorem rotZ_bd {b k : Int} (h1 : b ≤ 255) (h : k ≤ 6) : 0 ≤ rotZ b k ∧ rotZ b k ≤ 255 := rotI_bd h1 (by omega)
theorem Rot_at (b k : Int) (h0 : 0 ≤ b) (h1 : b ≤ 255) (k0 : 1 ≤ k) (k1 : k ≤ 6) (w : World) :
    Calls Try.prog 81 #[.int .u8 b, .int .i64 k] w fun e w' => e = .returned (.int .u8 (rotZ b k)) ∧ w = w' := by
  have := Rot_any b k.toNat h0 h1 (by omega) (by omega) w
  rw [Int.toNat_of_nonneg (by omega)] at this; exact this
theorem gatZ_step (b : Int) : gatI b = xorI (xorI (rotZ b 1) (rotZ b 3)) (rotZ b 6) := gatI_step b

set_option maxHeartbeats 400000 in
theorem gather_any (b : Int) (h0 : 0 ≤ b) (h1 : b ≤ 255) (w : World) :
    Calls Try.prog 80 #[.int .u8 b] w fun e w' => e = .returned (.int .u8 (gatI b)) ∧ w = w' := by
  have r1 := rotZ_bd (b := b) (k := 1) h1 (by omega)
  have r3 := rotZ_bd (b := b) (k := 3) h1 (by omega)
  have r6 := rotZ_bd (b := b) (k := 6) h1 (by omega)
  have x1 : bits .xor .u8 (rotZ b 1) (rotZ b 3) = xorI (rotZ b 1) (rotZ b 3) := xorI_bits r1.1 r1.2 r3.1 r3.2
  have b1 := xorI_bd (a := rotZ b 1) (b := rotZ b 3) r1.2 r3.2
  have x2 : bits .xor .u8 (xorI (rotZ b 1) (rotZ b 3)) (rotZ b 6) = xorI (xorI (rotZ b 1) (rotZ b 3)) (rotZ b 6) := xorI_bits b1.1 b1.2 r6.1 r6.2
  have E := Lib.hid (gatZ_step b)
  clear r1 r3 r6 b1
  go_enter Try.func80, Try.ntmps80
  go_wp2_with (go_at_call 81; refine (Rot_at _ _ h0 h1 (by omega) (by omega) _).mono ?_; rintro e w' ⟨rfl, rfl⟩)
  go_ret
  rw [E.out]; exact ⟨rfl, rfl⟩

theorem Sub_any (b : Int) (h0 : 0 ≤ b) (h1 : b ≤ 255) (w : World) :
    Calls Try.prog 69 #[.int .u8 b] w fun e w' => e = .returned (.int .u8 (subI b)) ∧ w = w' := by
  have bi := invI_bd (b := b) h1
  have bs := sprI_bd (b := invI b) bi.2
  have x1 : bits .xor .u8 (sprI (invI b)) 99 = xorI (sprI (invI b)) 99 := xorI_bits bs.1 bs.2 (by omega) (by omega)
  have E := Lib.hid (subI_step b)
  go_enter Try.func69, Try.ntmps69
  go_wp2_with (first
    | (go_at_call 75; refine (Inv_any _ h0 h1 _).mono ?_; rintro e w' ⟨rfl, rfl⟩)
    | (go_at_call 74; refine (spread_any _ bi.1 bi.2 _).mono ?_; rintro e w' ⟨rfl, rfl⟩))
  go_ret
  rw [E.out]; exact ⟨rfl, rfl⟩

theorem Back_any (b : Int) (h0 : 0 ≤ b) (h1 : b ≤ 255) (w : World) :
    Calls Try.prog 73 #[.int .u8 b] w fun e w' => e = .returned (.int .u8 (backI b)) ∧ w = w' := by
  have bx := xorI_bd (a := b) (b := 99) h1 (by omega)
  have bg := gatI_bd (b := xorI b 99) bx.2
  have x1 : bits .xor .u8 b 99 = xorI b 99 := xorI_bits h0 h1 (by omega) (by omega)
  have E := Lib.hid (backI_step b)
  go_enter Try.func73, Try.ntmps73
  go_wp2_with (first
    | (go_at_call 80; refine (gather_any _ bx.1 bx.2 _).mono ?_; rintro e w' ⟨rfl, rfl⟩)
    | (go_at_call 75; refine (Inv_any _ bg.1 bg.2 _).mono ?_; rintro e w' ⟨rfl, rfl⟩))
  go_ret
  rw [E.out]; exact ⟨rfl, rfl⟩
end Go.Proofs.Ytklnnmlegagfoaa

/- The contracts of package sbox's functions of words and blocks: each answers the array that the plain functions say, and writes nothing that was there. Condition: the arrays' bytes are bytes. -/
namespace Go.Proofs.Ytklnnmlegagfoaa
open Go.ChangeShapes Go.WideShapes Go.ChangeAt Go.RowKit

/-- The first k bytes are replaced. -/
def mapTo (g : Nat → Nat) (f : Nat → Nat) (k : Nat) : Nat → Nat := fun i => if i < k then g (f i) else f i
theorem mapTo_zero (g f : Nat → Nat) : mapTo g f 0 = f := by funext i; simp [mapTo]
theorem mapTo_end (n : Nat) (g f : Nat → Nat) : mk n (mapTo g f n) = mk n (fun i => g (f i)) := mk_ext fun i hi => by simp [mapTo, hi]
theorem mapTo_step (n : Nat) (g f : Nat → Nat) {k : Nat} {v : Int} (hv : v = (g (f k) : Nat)) : (mk n (mapTo g f k)).set k v = mk n (mapTo g f (k + 1)) :=
  mk_set_is hv fun j _ => by
    unfold mapTo
    by_cases h : j = k
    · subst h; simp
    · rw [if_neg h]; by_cases h2 : j < k
      · rw [if_pos h2, if_pos (by omega)]
      · rw [if_neg h2, if_neg (by omega)]
attribute [local irreducible] subN backN subI backI

set_option maxRecDepth 100000 in
set_option maxHeartbeats 1000000 in
theorem SubAll_any (f : Nat → Nat) (hf : ∀ i, i < 16 → f i < 256) (w : World) :
    Calls Try.prog 55 #[.agg (cellsOf .u8 (mk 16 f))] w fun e w' => e = .returned (.agg (cellsOf .u8 (mk 16 (fun i => subN (f i))))) ∧ Below w.heap.size w w' := by
  go_enter Try.func55, Try.ntmps55
  go_wp2_with (refine wpList_load_row rfl 25 _ rfl w.heap.size rfl 25 (cellsOf .u8 (mk 16 f)) (0, 0) _ ((IntBlk.new w .u8 25 (mk 16 f)).alloc _) keyUnder rfl (keySize f) ?_)
  go_loopw [6] (fun v6 wr => ∃ k : Nat, k ≤ 16 ∧ v6 = .int .i64 k ∧ IntBlk wr w.heap.size .u8 25 (mk 16 (mapTo subN f k)) ∧ IntBlk wr (w.heap.size + 1) .u8 25 (mk 16 zeroK) ∧ Below w.heap.size w wr) (fun v6 _ => 16 - (intOf v6).toNat)
  case atStart => exact ⟨0, by omega, rfl, by rw [mapTo_zero]; exact (IntBlk.new w .u8 25 (mk 16 f)).alloc _, blk_two w .u8 25 (mk 16 zeroK) _, below_two w _ _⟩
  case round =>
    obtain ⟨k, hk, rfl, hz, hd, hb⟩ := hrel
    have HZ := Lib.hid hz
    have HD := Lib.hid hd
    have HB := Lib.hid hb
    by_cases hlt : k < 16
    · have hx := hf k hlt
      have HV := Lib.hid (mapTo_step 16 subN f (k := k) (v := subI (f k)) (subI_nat (f k)))
      have ci := hz.cell (i := k) (by rw [mk_len]; exact hlt)
      have cf := hz.free k
      have ki := key_index f hlt
      clear hz hd hb
      go_wp2_with (go_at_call 69; refine (Sub_any _ (by omega) (by omega) _).mono ?_; rintro e w' ⟨rfl, rfl⟩)
      go_roundw
      case rel => exact ⟨k + 1, by omega, by go_num, by rw [← HV.out]; exact HZ.out.set k _, HD.out.other (by simp) _, HB.out.setCell (by simp) _⟩
      case measure => simp [intOf]; omega
    · obtain rfl : k = 16 := by omega
      have hd1 : decide (((16 : Nat) : Int) < 16) = false := rfl
      clear hz hd hb
      go_wp2_with (first
        | (refine wpList_load_row rfl 25 _ rfl w.heap.size rfl 25 (cellsOf .u8 (mk 16 (fun i => subN (f i)))) (0, 0) _ (by rw [← mapTo_end]; exact HZ.out) keyUnder rfl (keySize _) ?_)
        | (refine wpList_store_row rfl 25 _ _ rfl (w.heap.size + 1) _ rfl rfl 25 (cellsOf .u8 (mk 16 zeroK)) HD.out (keySize _) (by rw [cellsOf_size, cellsOf_size, mk_len, mk_len]) (cellsOf_one _ _) ?_))
      refine bodyPost_ret (results_cell_row rfl _ _ (w.heap.size + 1) 25 (cellsOf .u8 (mk 16 (fun i => subN (f i)))) (0, 0) _ rfl (HD.out.setRow .u8 (mk 16 (fun i => subN (f i)))) keyUnder rfl (keySize _)) rfl ⟨rfl, below_setRow HB.out (by omega) _⟩

set_option maxRecDepth 100000 in
set_option maxHeartbeats 1000000 in
theorem BackAll_any (f : Nat → Nat) (hf : ∀ i, i < 16 → f i < 256) (w : World) :
    Calls Try.prog 64 #[.agg (cellsOf .u8 (mk 16 f))] w fun e w' => e = .returned (.agg (cellsOf .u8 (mk 16 (fun i => backN (f i))))) ∧ Below w.heap.size w w' := by
  go_enter Try.func64, Try.ntmps64
  go_wp2_with (refine wpList_load_row rfl 25 _ rfl w.heap.size rfl 25 (cellsOf .u8 (mk 16 f)) (0, 0) _ ((IntBlk.new w .u8 25 (mk 16 f)).alloc _) keyUnder rfl (keySize f) ?_)
  go_loopw [6] (fun v6 wr => ∃ k : Nat, k ≤ 16 ∧ v6 = .int .i64 k ∧ IntBlk wr w.heap.size .u8 25 (mk 16 (mapTo backN f k)) ∧ IntBlk wr (w.heap.size + 1) .u8 25 (mk 16 zeroK) ∧ Below w.heap.size w wr) (fun v6 _ => 16 - (intOf v6).toNat)
  case atStart => exact ⟨0, by omega, rfl, by rw [mapTo_zero]; exact (IntBlk.new w .u8 25 (mk 16 f)).alloc _, blk_two w .u8 25 (mk 16 zeroK) _, below_two w _ _⟩
  case round =>
    obtain ⟨k, hk, rfl, hz, hd, hb⟩ := hrel
    have HZ := Lib.hid hz
    have HD := Lib.hid hd
    have HB := Lib.hid hb
    by_cases hlt : k < 16
    · have hx := hf k hlt
      have HV := Lib.hid (mapTo_step 16 backN f (k := k) (v := backI (f k)) (backI_nat (f k)))
      have ci := hz.cell (i := k) (by rw [mk_len]; exact hlt)
      have cf := hz.free k
      have ki := key_index f hlt
      clear hz hd hb
      go_wp2_with (go_at_call 73; refine (Back_any _ (by omega) (by omega) _).mono ?_; rintro e w' ⟨rfl, rfl⟩)
      go_roundw
      case rel => exact ⟨k + 1, by omega, by go_num, by rw [← HV.out]; exact HZ.out.set k _, HD.out.other (by simp) _, HB.out.setCell (by simp) _⟩
      case measure => simp [intOf]; omega
    · obtain rfl : k = 16 := by omega
      have hd1 : decide (((16 : Nat) : Int) < 16) = false := rfl
      clear hz hd hb
      go_wp2_with (first
        | (refine wpList_load_row rfl 25 _ rfl w.heap.size rfl 25 (cellsOf .u8 (mk 16 (fun i => backN (f i)))) (0, 0) _ (by rw [← mapTo_end]; exact HZ.out) keyUnder rfl (keySize _) ?_)
        | (refine wpList_store_row rfl 25 _ _ rfl (w.heap.size + 1) _ rfl rfl 25 (cellsOf .u8 (mk 16 zeroK)) HD.out (keySize _) (by rw [cellsOf_size, cellsOf_size, mk_len, mk_len]) (cellsOf_one _ _) ?_))
      refine bodyPost_ret (results_cell_row rfl _ _ (w.heap.size + 1) 25 (cellsOf .u8 (mk 16 (fun i => backN (f i)))) (0, 0) _ rfl (HD.out.setRow .u8 (mk 16 (fun i => backN (f i)))) keyUnder rfl (keySize _)) rfl ⟨rfl, below_setRow HB.out (by omega) _⟩

set_option maxRecDepth 100000 in
set_option maxHeartbeats 1000000 in
theorem SubWord_any (f : Nat → Nat) (hf : ∀ i, i < 4 → f i < 256) (w : World) :
    Calls Try.prog 77 #[.agg (cellsOf .u8 (mk 4 f))] w fun e w' => e = .returned (.agg (cellsOf .u8 (mk 4 (fun i => subN (f i))))) ∧ Below w.heap.size w w' := by
  go_enter Try.func77, Try.ntmps77
  go_wp2_with (refine wpList_load_row rfl 80 _ rfl w.heap.size rfl 80 (cellsOf .u8 (mk 4 f)) (0, 0) _ ((IntBlk.new w .u8 80 (mk 4 f)).alloc _) wordUnder rfl (wordSize f) ?_)
  go_loopw [6] (fun v6 wr => ∃ k : Nat, k ≤ 4 ∧ v6 = .int .i64 k ∧ IntBlk wr w.heap.size .u8 80 (mk 4 (mapTo subN f k)) ∧ IntBlk wr (w.heap.size + 1) .u8 80 (mk 4 zeroK) ∧ Below w.heap.size w wr) (fun v6 _ => 4 - (intOf v6).toNat)
  case atStart => exact ⟨0, by omega, rfl, by rw [mapTo_zero]; exact (IntBlk.new w .u8 80 (mk 4 f)).alloc _, blk_two w .u8 80 (mk 4 zeroK) _, below_two w _ _⟩
  case round =>
    obtain ⟨k, hk, rfl, hz, hd, hb⟩ := hrel
    have HZ := Lib.hid hz
    have HD := Lib.hid hd
    have HB := Lib.hid hb
    by_cases hlt : k < 4
    · have hx := hf k hlt
      have HV := Lib.hid (mapTo_step 4 subN f (k := k) (v := subI (f k)) (subI_nat (f k)))
      have ci := hz.cell (i := k) (by rw [mk_len]; exact hlt)
      have cf := hz.free k
      have ki := word_index f hlt
      clear hz hd hb
      go_wp2_with (go_at_call 69; refine (Sub_any _ (by omega) (by omega) _).mono ?_; rintro e w' ⟨rfl, rfl⟩)
      go_roundw
      case rel => exact ⟨k + 1, by omega, by go_num, by rw [← HV.out]; exact HZ.out.set k _, HD.out.other (by simp) _, HB.out.setCell (by simp) _⟩
      case measure => simp [intOf]; omega
    · obtain rfl : k = 4 := by omega
      have hd1 : decide (((4 : Nat) : Int) < 4) = false := rfl
      clear hz hd hb
      go_wp2_with (first
        | (refine wpList_load_row rfl 80 _ rfl w.heap.size rfl 80 (cellsOf .u8 (mk 4 (fun i => subN (f i)))) (0, 0) _ (by rw [← mapTo_end]; exact HZ.out) wordUnder rfl (wordSize _) ?_)
        | (refine wpList_store_row rfl 80 _ _ rfl (w.heap.size + 1) _ rfl rfl 80 (cellsOf .u8 (mk 4 zeroK)) HD.out (wordSize _) (by rw [cellsOf_size, cellsOf_size, mk_len, mk_len]) (cellsOf_one _ _) ?_))
      refine bodyPost_ret (results_cell_row rfl _ _ (w.heap.size + 1) 80 (cellsOf .u8 (mk 4 (fun i => subN (f i)))) (0, 0) _ rfl (HD.out.setRow .u8 (mk 4 (fun i => subN (f i)))) wordUnder rfl (wordSize _)) rfl ⟨rfl, below_setRow HB.out (by omega) _⟩

end Go.Proofs.Ytklnnmlegagfoaa

/- Calls of package sbox's functions in regions whose order Go leaves open, over the class of worlds in which nothing that was there has turned. Conditions: the arguments' bytes are bytes. -/
namespace Go.Proofs.Ytklnnmlegagfoaa
open Go.ChangeShapes Go.WideShapes Go.ChangeAt Go.RowKit

/-- A call of a function of one byte. -/
theorem quiet_byte {o : Oper} {a : Act} {C : World → Prop} {K : Act → Prop} (x y : Operand) (ts : Array TypeId) (ho : o.op = .call { callee := .value x, args := #[y], argTypes := ts }) (g : FuncId) (hx : a.eval x = .func (.func g) #[] #[])
    (b : Int) (hy : a.eval y = .int .u8 b) (r : Int) (hf : ∀ (args : Array Value) (w : World), (callFunc g args).run Try.prog w = .ok (.enter g args) w)
    (hc : ∀ w, C w → Calls Try.prog g #[.int .u8 b] w fun e w' => e = .returned (.int .u8 r) ∧ C w') (hk : K (a.put o.dst (.int .u8 r))) : o.quiet Try.prog a C K :=
  quiet_calls x #[y] ts ho g _ _ hx (by simp only [List.map_toArray, List.map_cons, List.map_nil, hy]) (fun w => hf _ w) hc hk
theorem call_sub (args : Array Value) (w : World) : (callFunc 69 args).run Try.prog w = .ok (.enter 69 args) w := by simp [go_sem]
theorem call_suball (args : Array Value) (w : World) : (callFunc 55 args).run Try.prog w = .ok (.enter 55 args) w := by simp [go_sem]
theorem call_backall (args : Array Value) (w : World) : (callFunc 64 args).run Try.prog w = .ok (.enter 64 args) w := by simp [go_sem]
theorem class_sub {C : World → Prop} {b : Int} (h0 : 0 ≤ b) (h1 : b ≤ 255) : ∀ w, C w → Calls Try.prog 69 #[.int .u8 b] w fun e w' => e = .returned (.int .u8 (subI b)) ∧ C w' :=
  fun w hw => (Sub_any b h0 h1 w).mono fun _ _ ⟨he, hb⟩ => ⟨he, hb ▸ hw⟩
theorem class_suball {W0 : World} {f : Nat → Nat} (hf : ∀ i, i < 16 → f i < 256) : ∀ w, Below W0.heap.size W0 w → Calls Try.prog 55 #[.agg (cellsOf .u8 (mk 16 f))] w fun e w' => e = .returned (.agg (cellsOf .u8 (mk 16 (fun i => subN (f i))))) ∧ Below W0.heap.size W0 w' :=
  fun w hw => (SubAll_any f hf w).mono fun _ _ ⟨he, hb⟩ => ⟨he, hw.trans (hb.mono hw.size)⟩
theorem class_backall {W0 : World} {f : Nat → Nat} (hf : ∀ i, i < 16 → f i < 256) : ∀ w, Below W0.heap.size W0 w → Calls Try.prog 64 #[.agg (cellsOf .u8 (mk 16 f))] w fun e w' => e = .returned (.agg (cellsOf .u8 (mk 16 (fun i => backN (f i))))) ∧ Below W0.heap.size W0 w' :=
  fun w hw => (BackAll_any f hf w).mono fun _ _ ⟨he, hb⟩ => ⟨he, hw.trans (hb.mono hw.size)⟩
end Go.Proofs.Ytklnnmlegagfoaa

/- The contract of package field's Xor: it answers the exclusive or of two keys, and writes nothing that was there. Condition: the keys' bytes are bytes. -/
namespace Go.Proofs.Ytklnnmlegagfoaa
open Go.ChangeShapes Go.WideShapes Go.ChangeAt Go.RowKit

set_option maxRecDepth 100000 in
set_option maxHeartbeats 1000000 in
theorem Xor_any (f g : Nat → Nat) (hf : IsKey f) (hg : IsKey g) (w : World) :
    Calls Try.prog 58 #[.agg (cellsOf .u8 (mk 16 f)), .agg (cellsOf .u8 (mk 16 g))] w fun e w' => e = .returned (.agg (cellsOf .u8 (mk 16 (xorK f g)))) ∧ Below w.heap.size w w' := by
  go_enter Try.func58, Try.ntmps58
  go_wp2
  go_loopw [7] (fun v7 wr => ∃ k : Nat, k ≤ 16 ∧ v7 = .int .i64 k ∧ IntBlk wr w.heap.size .u8 25 (mk 16 f) ∧ IntBlk wr (w.heap.size + 1) .u8 25 (mk 16 g) ∧ IntBlk wr (w.heap.size + 1 + 1) .u8 25 (mk 16 zeroK) ∧ IntBlk wr (w.heap.size + 1 + 1 + 1) .u8 25 (mk 16 (xorTo f g k)) ∧ Below w.heap.size w wr) (fun v7 _ => 16 - (intOf v7).toNat)
  case atStart => exact ⟨0, by omega, rfl, (blk_first w .u8 _ (mk 16 f) _ _).alloc _, (blk_second w .u8 _ (mk 16 g) _ _).alloc _, (blk_third w .u8 _ (mk 16 zeroK) _ _).alloc _, by rw [xorTo_start]; exact blk_fourth w .u8 _ (mk 16 zeroK) _ _ _, below_four w _ _ _ _⟩
  case round =>
    obtain ⟨k, hk, rfl, ha, hb, hz, hd, hw⟩ := hrel
    have HA := Lib.hid ha
    have HB := Lib.hid hb
    have HZ := Lib.hid hz
    have HD := Lib.hid hd
    have HW := Lib.hid hw
    by_cases hlt : k < 16
    · have c1 := ha.cell (i := k) (by rw [mk_len]; exact hlt)
      have c2 := hb.cell (i := k) (by rw [mk_len]; exact hlt)
      have c3 := hd.cell (i := k) (by rw [mk_len]; exact hlt)
      rw [mk_get hlt] at c1 c2
      have f1 := ha.free k
      have f2 := hb.free k
      have f3 := hd.free k
      have hx := hf k hlt
      have hy := hg k hlt
      have HV := Lib.hid (xorK_bits (f := f) (g := g) hx hy)
      clear ha hb hz hd hw
      go_wp2
      have e1 : (k : Int) < 16 := by omega
      have e2 : (0 : Int) ≤ k := by omega
      refine wp_region_still_tail 9 (by kernel_rfl) (by kernel_rfl) ?_
      simp only [List.take_succ_cons, List.take_zero, List.drop_succ_cons, List.drop_zero]
      change wpStill _ _ wr.drew (fun a' => wpList _ _ _ _ a' wr.drew) _ _
      iterate 9 still_step
      refine wpStill_nil ?_
      go_wp2
      go_roundw
      case rel => exact ⟨k + 1, by omega, by go_num, (HA.out.other (by show w.heap.size + 1 + 1 + 1 ≠ w.heap.size; omega) _).drew, (HB.out.other (by show w.heap.size + 1 + 1 + 1 ≠ w.heap.size + 1; omega) _).drew, (HZ.out.other (by show w.heap.size + 1 + 1 + 1 ≠ w.heap.size + 1 + 1; omega) _).drew, by rw [HV.out, ← xorTo_step]; exact (HD.out.set k _).drew, (HW.out.setCell (by show w.heap.size ≤ w.heap.size + 1 + 1 + 1; omega) _).drew⟩
      case measure => simp [intOf]; omega
    · obtain rfl : k = 16 := by omega
      clear ha hb hz hd hw
      go_wp2_with (first
        | (refine wpList_load_row rfl 25 _ rfl (w.heap.size + 1 + 1 + 1) rfl 25 (cellsOf .u8 (mk 16 (xorK f g))) (0, 0) _ (by rw [← xorTo_end]; exact HD.out) keyUnder rfl (keySize _) ?_)
        | (refine wpList_store_row rfl 25 _ _ rfl (w.heap.size + 1 + 1) _ rfl rfl 25 (cellsOf .u8 (mk 16 zeroK)) HZ.out (keySize _) (by rw [cellsOf_size, cellsOf_size, mk_len, mk_len]) (cellsOf_one _ _) ?_))
      refine bodyPost_ret (results_cell_row rfl _ _ (w.heap.size + 1 + 1) 25 (cellsOf .u8 (mk 16 (xorK f g))) (0, 0) _ rfl (HZ.out.setRow .u8 (mk 16 (xorK f g))) keyUnder rfl (keySize _)) rfl ⟨rfl, below_setRow HW.out (by omega) _⟩
end Go.Proofs.Ytklnnmlegagfoaa

/- The contract of package field's Double: it answers the key that the plain function says, and writes nothing that was there. Condition: the keys' bytes are bytes. -/
namespace Go.Proofs.Ytklnnmlegagfoaa
open Go.ChangeShapes Go.WideShapes Go.ChangeAt Go.RowKit

set_option maxRecDepth 100000 in
set_option maxHeartbeats 1000000 in
theorem Double_any (f : Nat → Nat) (hf : IsKey f) (w : World) :
    Calls Try.prog 35 #[.agg (cellsOf .u8 (mk 16 f))] w fun e w' => e = .returned (.agg (cellsOf .u8 (mk 16 (dbl f)))) ∧ Below w.heap.size w w' := by
  go_enter Try.func35, Try.ntmps35
  go_wp2_with (refine wpList_load_row rfl 25 _ rfl w.heap.size rfl 25 (cellsOf .u8 (mk 16 f)) (0, 0) _ (((IntBlk.new w .u8 25 (mk 16 f)).alloc _).alloc _) keyUnder rfl (keySize f) ?_)
  go_loopw [4, 8] (fun v4 v8 wr => ∃ k : Nat, k ≤ 16 ∧ v4 = .int .u8 (carry f k : Nat) ∧ v8 = .int .i64 k ∧ IntBlk wr (w.heap.size + 1) .u8 25 (mk 16 zeroK) ∧ IntBlk wr (w.heap.size + 1 + 1) .u8 25 (mk 16 (dblTo f k)) ∧ Below w.heap.size w wr) (fun _ v8 _ => 16 - (intOf v8).toNat)
  case atStart => exact ⟨0, by omega, rfl, rfl, blk_second w .u8 _ (mk 16 zeroK) _ _, by rw [dblTo_zero]; exact blk_third w .u8 _ (mk 16 zeroK) _ _, below_three w _ _ _⟩
  case round =>
    obtain ⟨k, hk, rfl, rfl, hz, hd, hb⟩ := hrel
    have HZ := Lib.hid hz
    have HD := Lib.hid hd
    have HB := Lib.hid hb
    by_cases hlt : k < 16
    · have hx := hf k hlt
      have hc := carry_lt hf (j := k) (by omega)
      have HV := Lib.hid (dbl0_or hf hlt)
      have HC := Lib.hid (carry_step f k)
      have ci := hd.cell (i := k) (by rw [mk_len]; exact hlt)
      have cf := hd.free k
      have ki := key_index f hlt
      clear hz hd hb
      go_wp2
      go_roundw
      case rel => exact ⟨k + 1, by omega, by rw [HC.out], by go_num, HZ.out.other (by simp) _, by rw [HV.out, ← dblTo_step]; exact HD.out.set k _, HB.out.setCell (by simp; omega) _⟩
      case measure => simp [intOf]; omega
    · obtain rfl : k = 16 := by omega
      rcases top_cases hf with ht | ht
      · have h0 : ((carry f 16 : Nat) : Int) = 1 := by rw [carry_top, ht]; rfl
        have ct : (((carry f 16 : Nat) : Int) != 0) = true := by rw [h0]; rfl
        have ci := hd.cell (i := 0) (by rw [mk_len]; omega)
        rw [mk_get (by omega), dblTo_first] at ci
        have cf := hd.free 0
        have hx := dbl0_lt hf (j := 0) (by omega)
        have HX := Lib.hid (xor135 hx)
        have HT := Lib.hid (dbl_top ht)
        clear hz hd hb ht h0
        have H1 := Lib.hid (HD.out.set 0 ((dbl0 f 0 ^^^ 135 : Nat) : Int))
        go_wp2_with (first
          | (refine wpList_load_row rfl 25 _ rfl (w.heap.size + 1 + 1) rfl 25 (cellsOf .u8 (mk 16 (dbl f))) (0, 0) _ (by rw [HX.out, ← HT.out]; exact H1.out) keyUnder rfl (keySize _) ?_)
          | (refine wpList_store_row rfl 25 _ _ rfl (w.heap.size + 1) _ rfl rfl 25 (cellsOf .u8 (mk 16 zeroK)) (HZ.out.other (by simp) _) (keySize _) (by rw [cellsOf_size, cellsOf_size, mk_len, mk_len]) (cellsOf_one _ _) ?_))
        refine bodyPost_ret (results_cell_row rfl _ _ (w.heap.size + 1) 25 (cellsOf .u8 (mk 16 (dbl f))) (0, 0) _ rfl ((HZ.out.other (by simp) _).setRow .u8 (mk 16 (dbl f))) keyUnder rfl (keySize _)) rfl ⟨rfl, below_setRow (HB.out.setCell (by simp; omega) _) (by omega) _⟩
      · have h0 : ((carry f 16 : Nat) : Int) = 0 := by rw [carry_top, ht]; rfl
        have ct : (((carry f 16 : Nat) : Int) != 0) = false := by rw [h0]; rfl
        have HT := Lib.hid (dbl_low ht)
        clear hz hd hb ht h0
        go_wp2_with (first
          | (refine wpList_load_row rfl 25 _ rfl (w.heap.size + 1 + 1) rfl 25 (cellsOf .u8 (mk 16 (dbl f))) (0, 0) _ (by rw [← HT.out]; exact HD.out) keyUnder rfl (keySize _) ?_)
          | (refine wpList_store_row rfl 25 _ _ rfl (w.heap.size + 1) _ rfl rfl 25 (cellsOf .u8 (mk 16 zeroK)) HZ.out (keySize _) (by rw [cellsOf_size, cellsOf_size, mk_len, mk_len]) (cellsOf_one _ _) ?_))
        refine bodyPost_ret (results_cell_row rfl _ _ (w.heap.size + 1) 25 (cellsOf .u8 (mk 16 (dbl f))) (0, 0) _ rfl (HZ.out.setRow .u8 (mk 16 (dbl f))) keyUnder rfl (keySize _)) rfl ⟨rfl, below_setRow HB.out (by omega) _⟩
end Go.Proofs.Ytklnnmlegagfoaa

/- The iterator of package field's Powers: in round i it hands yield the byte's i-th power, for ever, as long as the caller goes with it. Condition: the caller's invariant bounds the rounds' number and keeps the byte's box. -/
namespace Go.Proofs.Ytklnnmlegagfoaa
open Go.RowKit Go.Shelf
attribute [local go_sem] Oper.semAt_some

/-- A byte's power. -/
def powI (b : Int) : Nat → Int
  | 0 => 1
  | i + 1 => mulI (powI b i) b
theorem powI_bd {b : Int} : ∀ i, 0 ≤ powI b i ∧ powI b i ≤ 255
  | 0 => by unfold powI; omega
  | i + 1 => mulI_bd (powI_bd i).2
/-- k rounds at most are still to come. -/
def toCome (M : Nat) (b : Int) (J : Nat → World → Prop) (v : Value) (w : World) (k : Nat) : Prop := ∃ i, i + k = M + 1 ∧ v = .int .u8 (powI b i) ∧ J i w

set_option maxRecDepth 100000 in
set_option maxHeartbeats 1000000 in
theorem powers_told (m : Nat) (Bb M : Nat) (b : Int) (b0 : 0 ≤ b) (b1 : b ≤ 255) (I : Nat → World → Prop) (hM : ∀ i W, I i W → i ≤ M) (hb : ∀ i W, I i W → W.cell? ⟨Bb, 0, none⟩ = some (.int .u8 b)) :
    ToldBy Fence.wide m Try.prog 84 #[.pointer (some ⟨Bb, 0, none⟩)] (fun i => #[.int .u8 (powI b i)]) I := fun l J Jx W hJI hY h0 => by
  refine callsIn_of_wp Try.func84 rfl trivial ?_ rfl
  simp only [Try.ntmps84, List.size_toArray, List.length_cons, List.length_nil, Nat.reduceAdd, Nat.reduceSub, Array.replicate_succ, Array.replicate_zero, List.push_toArray, List.append_toArray, List.nil_append, List.cons_append]
  have HJ := Lib.hid hJI
  have HY := Lib.hid hY
  have HM := Lib.hid hM
  have HB := Lib.hid hb
  clear hJI hY hM hb
  gi_wp2
  gi_loopw [3] (fun v wr => ∃ k, toCome M b J v wr k) (fun v wr => leastOf (toCome M b J v wr))
  case atStart => exact ⟨M + 1, 0, by omega, rfl, h0⟩
  case round =>
    obtain ⟨i, hik, rfl, hJ⟩ := (leastOf_spec hrel).1
    clear hrel
    have HIK := Lib.hid hik
    have HJ0 := Lib.hid hJ
    have pb := powI_bd (b := b) i
    clear hik
    obtain ⟨fn, tmps, assign, body, hy, hR⟩ := HY.out i wr hJ
    clear hJ
    gi_wp2
    refine ⟨(fun h => by cases h), hR.mono ?_⟩
    rintro e W3 (⟨rfl, hJ3⟩ | ⟨rfl, hx3⟩)
    · have hM3 := HM.out _ _ (HJ.out _ _ hJ3)
      have hB3 := HB.out _ _ (HJ.out _ _ hJ3)
      have H3 := Lib.hid hJ3
      clear hR hy hJ3
      gi_wp2
      refine ⟨trivial, (fun h => by cases h), ?_⟩
      refine (callsIn_wide.2 (Mul_any _ _ pb.1 pb.2 b0 b1 _)).mono ?_
      rintro e w' ⟨rfl, rfl⟩
      gi_wp2
      go_roundw
      case rel => exact ⟨M - i, i + 1, by omega, rfl, H3.out⟩
      case measure =>
        have hp : toCome M b J (.int .u8 (powI b (i + 1))) W3 (M - i) := ⟨i + 1, by omega, rfl, H3.out⟩
        have h1 := (leastOf_spec ⟨_, hp⟩).2 _ hp
        have h2 := HIK.out
        exact Nat.lt_of_le_of_lt h1 (by show M - i < leastOf (toCome M b J (.int .u8 (powI b i)) wr); omega)
    · gi_wp2
      go_end0
      exact ⟨⟨_, rfl⟩, hx3⟩
end Go.Proofs.Ytklnnmlegagfoaa

/- The iterator's maker. No condition. -/
namespace Go.Proofs.Ytklnnmlegagfoaa
open Go.ChangeShapes Go.WideShapes Go.ChangeAt Go.RowKit Go.Shelf

theorem Powers_any (b : Int) (w : World) : Calls Try.prog 83 #[.int .u8 b] w fun e w' => e = .returned (.func (.func 84) #[] #[.pointer (some ⟨w.heap.size, 0, none⟩)]) ∧ w.alloc (.cells #[.int .u8 b] 5) = w' := by
  go_enter Try.func83, Try.ntmps83
  go_wp2
  go_ret
  exact ⟨rfl, rfl⟩
end Go.Proofs.Ytklnnmlegagfoaa

/- The contract of package sbox's Constant: the word whose first byte is a power of 2, if there is such a round, else noughts; and it writes nothing that was there. Condition: the argument is an int. -/
namespace Go.Proofs.Ytklnnmlegagfoaa
open Go.ChangeShapes Go.WideShapes Go.ChangeAt Go.RowKit Go.Shelf
attribute [local go_sem] Oper.semAt_some

theorem keeps_below {W W' : World} (h : Below W.heap.size W W') : KeepsOthers W W' :=
  ⟨h.size, fun k _ hk _ => (h.block k (Array.getElem?_eq_some_iff.1 hk).1).trans hk⟩
/-- A round's constant's first byte. -/
def conI (i : Int) : Int := if 1 ≤ i ∧ i ≤ 60 then powI 2 (i.toNat - 1) else 0
def conN (i : Int) : Nat := (conI i).toNat
theorem conI_bd (i : Int) : 0 ≤ conI i ∧ conI i ≤ 255 := by
  unfold conI; split
  · exact powI_bd _
  · omega
theorem conN_is (i : Int) : ((conN i : Nat) : Int) = conI i := Int.toNat_of_nonneg (conI_bd i).1
theorem conI_in {i : Int} {M : Nat} (h : i = (M : Int)) (h1 : 1 ≤ M) (h2 : M ≤ 60) : conI i = powI 2 (M - 1) := by
  subst h; unfold conI; rw [if_pos (by omega)]; rfl
theorem oneK_set {v : Int} {n : Nat} (hv : v = (n : Int)) : (mk 4 zeroK).set 0 v = mk 4 (oneK n) := mk_set_is hv fun _ _ => rfl

set_option maxRecDepth 100000 in
set_option maxHeartbeats 1000000 in
theorem Constant_out (i : Int) (h : i < 1 ∨ 60 < i) (w : World) :
    Calls Try.prog 79 #[.int .i64 i] w fun e w' => e = .returned (.agg (cellsOf .u8 (mk 4 (oneK (conN i))))) ∧ Below w.heap.size w w' := by
  have hc : mk 4 (oneK (conN i)) = mk 4 zeroK := mk_ext fun j _ => by
    have : conN i = 0 := by unfold conN conI; rw [if_neg (by omega)]; rfl
    unfold oneK zeroK; rw [this]; split <;> rfl
  have HC := Lib.hid hc; clear hc
  have HZ := Lib.hid (blk_third w .u8 80 (mk 4 zeroK) (.cells #[.int .i64 i] 3) (.cells (cellsOf .u8 (mk 4 zeroK)) 80))
  have HD := Lib.hid (blk_second w .u8 80 (mk 4 zeroK) (.cells #[.int .i64 i] 3) (.cells (cellsOf .u8 (mk 4 zeroK)) 80))
  have HB := Lib.hid (below_three w (.cells #[.int .i64 i] 3) (.cells (cellsOf .u8 (mk 4 zeroK)) 80) (.cells (cellsOf .u8 (mk 4 zeroK)) 80))
  by_cases h1 : i < 1
  · have hd : decide (i < 1) = true := by simpa using h1
    go_enter Try.func79, Try.ntmps79
    go_wp2_with (first
      | (refine wpList_load_row rfl 80 _ rfl (w.heap.size + 1 + 1) rfl 80 (cellsOf .u8 (mk 4 zeroK)) (0, 0) _ HZ.out wordUnder rfl (wordSize _) ?_)
      | (refine wpList_store_row rfl 80 _ _ rfl (w.heap.size + 1) _ rfl rfl 80 (cellsOf .u8 (mk 4 zeroK)) HD.out (wordSize _) rfl (cellsOf_one _ _) ?_))
    rw [HC.out]
    refine bodyPost_ret (results_cell_row rfl _ _ (w.heap.size + 1) 80 (cellsOf .u8 (mk 4 zeroK)) (0, 0) _ rfl (HD.out.setRow .u8 (mk 4 zeroK)) wordUnder rfl (wordSize _)) rfl ⟨rfl, below_setRow HB.out (by omega) _⟩
  · have h2 : 60 < i := by omega
    have hd : decide (i < 1) = false := by simpa using h1
    have hd2 : decide (60 < i) = true := by simpa using h2
    go_enter Try.func79, Try.ntmps79
    go_wp2_with (first
      | (refine wpList_load_row rfl 80 _ rfl (w.heap.size + 1 + 1) rfl 80 (cellsOf .u8 (mk 4 zeroK)) (0, 0) _ HZ.out wordUnder rfl (wordSize _) ?_)
      | (refine wpList_store_row rfl 80 _ _ rfl (w.heap.size + 1) _ rfl rfl 80 (cellsOf .u8 (mk 4 zeroK)) HD.out (wordSize _) rfl (cellsOf_one _ _) ?_))
    rw [HC.out]
    refine bodyPost_ret (results_cell_row rfl _ _ (w.heap.size + 1) 80 (cellsOf .u8 (mk 4 zeroK)) (0, 0) _ rfl (HD.out.setRow .u8 (mk 4 zeroK)) wordUnder rfl (wordSize _)) rfl ⟨rfl, below_setRow HB.out (by omega) _⟩

theorem below_cell {M B : Nat} {a w : World} (h : Below M a w) (hB : M ≤ B) (i : Nat) (v : Value) : Below M a (w.setCell ⟨B, i, none⟩ v) := h.setCell hB v
/-- Between two rounds: k of them are over, of M. -/
def CnI (w : World) (M k : Nat) (W : World) : Prop :=
  k < M ∧ IntBlk W w.heap.size .i64 3 [(M : Int)] ∧ IntBlk W (w.heap.size + 1) .u8 80 (mk 4 zeroK) ∧ IntBlk W (w.heap.size + 1 + 1) .u8 80 (mk 4 zeroK) ∧ IntBlk W (w.heap.size + 1 + 1 + 1) .i64 3 [(k : Int) + 1] ∧ IntBlk W (w.heap.size + 1 + 1 + 1 + 1) .u8 5 [2] ∧ Below w.heap.size w W
/-- Behind the last one. -/
def CnX (w : World) (M : Nat) (c : Code) (W : World) : Prop := c = .exit 0 ∧ IntBlk W (w.heap.size + 1) .u8 80 (mk 4 zeroK) ∧ IntBlk W (w.heap.size + 1 + 1) .u8 80 (mk 4 (oneK (powI 2 (M - 1)).toNat)) ∧ Below w.heap.size w W
theorem CnI.turn {w W : World} {M k l : Nat} {o o' : Obj} (h : CnI w M k W) (hl : w.heap.size ≤ l) (ho : W.heap[l]? = some o) (hc : o.isCells = false) : CnI w M k (W.putObj l o') := by
  obtain ⟨h1, h2, h3, h4, h5, h6, h7⟩ := h
  exact ⟨h1, cells_turn h2 ho hc, cells_turn h3 ho hc, cells_turn h4 ho hc, cells_turn h5 ho hc, cells_turn h6 ho hc, below_turn _ h7 hl⟩
theorem CnX.turn {w W : World} {M : Nat} {c : Code} {l : Nat} {o o' : Obj} (h : CnX w M c W) (hl : w.heap.size ≤ l) (ho : W.heap[l]? = some o) (hc : o.isCells = false) : CnX w M c (W.putObj l o') :=
  ⟨h.1, cells_turn h.2.1 ho hc, cells_turn h.2.2.1 ho hc, below_turn _ h.2.2.2 hl⟩
theorem CnI.box {w W : World} {M k : Nat} (h : CnI w M k W) : W.cell? ⟨w.heap.size + 1 + 1 + 1 + 1, 0, none⟩ = some (.int .u8 2) := h.2.2.2.2.2.1.cell (i := 0) (by simp)

set_option maxRecDepth 100000 in
set_option maxHeartbeats 2000000 in
theorem Constant_in (M : Nat) (h1 : 1 ≤ M) (h2 : M ≤ 60) (w : World) :
    Calls Try.prog 79 #[.int .i64 M] w fun e w' => e = .returned (.agg (cellsOf .u8 (mk 4 (oneK (conN M))))) ∧ Below w.heap.size w w' := by
  have hc : conN M = (powI 2 (M - 1)).toNat := by unfold conN; rw [conI_in rfl h1 h2]
  have hd1 : decide ((M : Int) < 1) = false := by simp; omega
  have hd2 : decide (60 < (M : Int)) = false := by simp; omega
  rw [hc]; clear hc
  refine (callsIn_wide (n := 3)).1 ?_
  refine callsIn_of_wp_marks Try.func79 rfl trivial ?_ rfl
  simp only [Try.ntmps79, List.size_toArray, List.length_cons, List.length_nil, Nat.reduceAdd, Nat.reduceSub, Array.replicate_succ, Array.replicate_zero, List.push_toArray, List.append_toArray, List.nil_append, List.cons_append]
  gi_wp2
  refine ⟨trivial, (callsIn_wide.2 (Powers_any 2 _)).mono ?_⟩
  rintro e w2 ⟨rfl, rfl⟩
  gi_wp2
  have hs : (((((w.alloc (.cells #[.int .i64 M] 3)).alloc (.cells (cellsOf .u8 (mk 4 zeroK)) 80)).alloc (.cells (cellsOf .u8 (mk 4 zeroK)) 80)).alloc (.cells #[.int .i64 1] 3)).alloc (.cells #[.int .u8 2] 5)).heap.size = w.heap.size + 5 := by simp
  have BI : ∀ o o', CnI w M 0 (((((((w.alloc (.cells #[.int .i64 M] 3)).alloc (.cells (cellsOf .u8 (mk 4 zeroK)) 80)).alloc (.cells (cellsOf .u8 (mk 4 zeroK)) 80)).alloc (.cells #[.int .i64 1] 3)).alloc (.cells #[.int .u8 2] 5)).alloc o).alloc o') := fun o o' =>
    ⟨by omega, ((((((IntBlk.new w .i64 3 [(M : Int)]).alloc _).alloc _).alloc _).alloc _).alloc _).alloc _, (((((blk_two w .u8 80 (mk 4 zeroK) _).alloc _).alloc _).alloc _).alloc _).alloc _,
      ((((blk_third w .u8 80 (mk 4 zeroK) _ _).alloc _).alloc _).alloc _).alloc _, (((blk_fourth w .i64 3 [1] _ _ _).alloc _).alloc _).alloc _, ((blk_fifth w .u8 5 [2] _ _ _ _).alloc _).alloc _,
      (((below_four w _ _ _ _).alloc (by simp; omega) _).alloc (by simp; omega) _).alloc (by simp; omega) _⟩
  change Code.wpIn _ _ _ _ _ _ (((((w.alloc (.cells #[.int .i64 M] 3)).alloc (.cells (cellsOf .u8 (mk 4 zeroK)) 80)).alloc (.cells (cellsOf .u8 (mk 4 zeroK)) 80)).alloc (.cells #[.int .i64 1] 3)).alloc (.cells #[.int .u8 2] 5))
  generalize ((((w.alloc (.cells #[.int .i64 M] 3)).alloc (.cells (cellsOf .u8 (mk 4 zeroK)) 80)).alloc (.cells (cellsOf .u8 (mk 4 zeroK)) 80)).alloc (.cells #[.int .i64 1] 3)).alloc (.cells #[.int .u8 2] 5) = W0 at *
  have HI := Lib.hid BI
  clear BI
  refine range_told rfl (by omega) (gf := 84) (lb := #[.pointer (some ⟨w.heap.size + 1 + 1 + 1 + 1, 0, none⟩)]) rfl trivial (enters_of Try.func84 (by kernel_rfl) rfl)
    (fun k => #[.int .u8 (powI 2 k)]) (fun _ => rfl) (CnI w M) (CnX w M) (fun k W l o o' hl ho hc h => h.turn (by omega) ho hc) (fun c W l o o' hl ho hc h => h.turn (by omega) ho hc) HI.out
    (powers_told _ (w.heap.size + 1 + 1 + 1 + 1) M 2 (by omega) (by omega) (CnI w M) (fun k W h => Nat.le_of_lt h.1) (fun k W h => h.box))
    (fun k => { tmps := #[.int .i64 M, .pointer (some ⟨w.heap.size, 0, none⟩), .pointer (some ⟨w.heap.size + 1, 0, none⟩), .pointer (some ⟨w.heap.size + 1 + 1, 0, none⟩), .pointer (some ⟨w.heap.size + 1 + 1 + 1, 0, none⟩), .int .u8 (powI 2 k), .int .i64 M, .bool false, .bool false, .int .i64 M, .bool false, .bool false, undef,
      .func (.func 84) #[] #[.pointer (some ⟨w.heap.size + 1 + 1 + 1 + 1, 0, none⟩)], .int .u8 (powI 2 k), undef, undef, undef, undef, undef, undef, undef, undef], defers := [] }) ?assign ?body ?stop
  case assign =>
    intro l k W K hi hK
    clear HI
    gi_wp2
    exact hK
  case stop =>
    rintro D c W hD ⟨rfl, hr, hk, hw⟩ hd
    clear HI
    have r0 := hr.free 0
    have r1 := hr.free 1
    have r2 := hr.free 2
    have r3 := hr.free 3
    have z0 := hr.cell (i := 0) (by rw [mk_len]; omega)
    have z1 := hr.cell (i := 1) (by rw [mk_len]; omega)
    have z2 := hr.cell (i := 2) (by rw [mk_len]; omega)
    have z3 := hr.cell (i := 3) (by rw [mk_len]; omega)
    have k0 := hk.cell (i := 0) (by rw [mk_len]; omega)
    have k1 := hk.cell (i := 1) (by rw [mk_len]; omega)
    have k2 := hk.cell (i := 2) (by rw [mk_len]; omega)
    have k3 := hk.cell (i := 3) (by rw [mk_len]; omega)
    rw [mk_get (by omega)] at k0 k1 k2 k3
    have HR := Lib.hid hr
    have HW := Lib.hid hw
    have HD := Lib.hid hd
    clear hr hk hw hd
    gi_wp2
    have hl : ((((mk 4 zeroK).set 0 (oneK (powI 2 (M - 1)).toNat 0 : Nat)).set 1 (oneK (powI 2 (M - 1)).toNat 1 : Nat)).set 2 (oneK (powI 2 (M - 1)).toNat 2 : Nat)).set 3 (oneK (powI 2 (M - 1)).toNat 3 : Nat) = mk 4 (oneK (powI 2 (M - 1)).toNat) := rfl
    have HB := (((HR.out.set 0 (oneK (powI 2 (M - 1)).toNat 0 : Nat)).set 1 (oneK (powI 2 (M - 1)).toNat 1 : Nat)).set 2 (oneK (powI 2 (M - 1)).toNat 2 : Nat)).set 3 (oneK (powI 2 (M - 1)).toNat 3 : Nat)
    rw [hl] at HB
    have sb : w.heap.size ≤ w.heap.size + 1 := by omega
    have HE := below_cell (below_cell (below_cell (below_cell HW.out sb 0 (.int .u8 (oneK (powI 2 (M - 1)).toNat 0 : Nat))) sb 1 (.int .u8 (oneK (powI 2 (M - 1)).toNat 1 : Nat))) sb 2 (.int .u8 (oneK (powI 2 (M - 1)).toNat 2 : Nat))) sb 3 (.int .u8 (oneK (powI 2 (M - 1)).toNat 3 : Nat))
    have ne : D ≠ w.heap.size + 1 := by omega
    have HF := (Below.heap_setCell (((W.setCell ⟨w.heap.size + 1, 0, none⟩ (.int .u8 (oneK (powI 2 (M - 1)).toNat 0 : Nat))).setCell ⟨w.heap.size + 1, 1, none⟩ (.int .u8 (oneK (powI 2 (M - 1)).toNat 1 : Nat))).setCell ⟨w.heap.size + 1, 2, none⟩ (.int .u8 (oneK (powI 2 (M - 1)).toNat 2 : Nat))) ⟨w.heap.size + 1, 3, none⟩ (.int .u8 (oneK (powI 2 (M - 1)).toNat 3 : Nat)) D ne).trans ((Below.heap_setCell _ ⟨w.heap.size + 1, 2, none⟩ _ D ne).trans ((Below.heap_setCell _ ⟨w.heap.size + 1, 1, none⟩ _ D ne).trans ((Below.heap_setCell _ ⟨w.heap.size + 1, 0, none⟩ _ D ne).trans HD.out)))
    clear HR HW HD hl r0 r1 r2 r3 z0 z1 z2 z3 k0 k1 k2 k3
    generalize (((W.setCell ⟨w.heap.size + 1, 0, none⟩ (.int .u8 (oneK (powI 2 (M - 1)).toNat 0 : Nat))).setCell ⟨w.heap.size + 1, 1, none⟩ (.int .u8 (oneK (powI 2 (M - 1)).toNat 1 : Nat))).setCell ⟨w.heap.size + 1, 2, none⟩ (.int .u8 (oneK (powI 2 (M - 1)).toNat 2 : Nat))).setCell ⟨w.heap.size + 1, 3, none⟩ (.int .u8 (oneK (powI 2 (M - 1)).toNat 3 : Nat)) = V at *
    refine ⟨by simp, .inl ⟨_, _, rfl, run_takeDeferred HF, ?_⟩⟩
    have HG := cells_turn (o' := .deferred none) HB HF rfl
    exact ⟨_, results_cell_row rfl _ _ (w.heap.size + 1) 80 (cellsOf .u8 (mk 4 (oneK (powI 2 (M - 1)).toNat))) (0, 0) _ rfl HG wordUnder rfl (wordSize _), rfl, below_turn _ HE (by omega)⟩
  case body =>
    intro l k W l1 l2 h
    clear HI
    obtain ⟨hi, hb0, hr, hk, hn, hx, hw⟩ := h
    have c0 : W.cell? ⟨w.heap.size, 0, none⟩ = some (.int .i64 M) := hb0.cell (i := 0) (by simp)
    have cn : W.cell? ⟨w.heap.size + 1 + 1 + 1, 0, none⟩ = some (.int .i64 ((k : Int) + 1)) := hn.cell (i := 0) (by simp)
    have fn := hn.free 0
    have ck := hk.cell (i := 0) (by rw [mk_len]; omega)
    rw [mk_get (by omega)] at ck
    have fk := hk.free 0
    have H0 := Lib.hid hb0
    have HR := Lib.hid hr
    have HK := Lib.hid hk
    have HN := Lib.hid hn
    have HX := Lib.hid hx
    have HW := Lib.hid hw
    clear hb0 hr hk hn hx hw
    by_cases hl : k + 1 = M
    · have t1 : ((k : Int) + 1 == (M : Int)) = true := by simp; omega
      have hv := oneK_set (v := powI 2 k) (n := (powI 2 (M - 1)).toNat) (by rw [show M - 1 = k by omega]; have := (powI_bd (b := 2) k).1; omega)
      have HV := Lib.hid hv
      clear hv hl
      gi_wp2
      exact ⟨KeepsOthers.setCell _ _ _, rfl, HR.out.other (by show w.heap.size + 1 + 1 ≠ w.heap.size + 1; omega) _, by rw [← HV.out]; exact HK.out.set 0 _, HW.out.setCell (by show w.heap.size ≤ w.heap.size + 1 + 1; omega) _⟩
    · have t1 : ((k : Int) + 1 == (M : Int)) = false := by simp; omega
      have hlt : k + 1 < M := by omega
      have e1 : IntKind.i64.wrap ((k : Int) + 1 + 1) = (k : Int) + 1 + 1 := IntWalk.i64_in _ (by omega)
      clear hl
      gi_wp2
      exact ⟨KeepsOthers.setCell _ _ _, hlt, H0.out.other (by show w.heap.size + 1 + 1 + 1 ≠ w.heap.size; omega) _, HR.out.other (by show w.heap.size + 1 + 1 + 1 ≠ w.heap.size + 1; omega) _, HK.out.other (by show w.heap.size + 1 + 1 + 1 ≠ w.heap.size + 1 + 1; omega) _,
        HN.out.set 0 _, HX.out.other (by show w.heap.size + 1 + 1 + 1 ≠ w.heap.size + 1 + 1 + 1 + 1; omega) _, HW.out.setCell (by show w.heap.size ≤ w.heap.size + 1 + 1 + 1; omega) _⟩
end Go.Proofs.Ytklnnmlegagfoaa

/- The contract of package sbox's Rotate: it answers the word with its first byte behind the others, and writes nothing that was there. Condition: the word's bytes are bytes. -/
namespace Go.Proofs.Ytklnnmlegagfoaa
open Go.ChangeShapes Go.WideShapes Go.ChangeAt Go.RowKit

def turnK (f : Nat → Nat) : Nat → Nat := fun i => f ((i + 1) % 4)

set_option maxRecDepth 100000 in
set_option maxHeartbeats 1000000 in
theorem Rotate_any (f : Nat → Nat) (w : World) :
    Calls Try.prog 78 #[.agg (cellsOf .u8 (mk 4 f))] w fun e w' => e = .returned (.agg (cellsOf .u8 (mk 4 (turnK f)))) ∧ Below w.heap.size w w' := by
  have hd : IntBlk ((w.alloc (.cells (cellsOf .u8 (mk 4 f)) 80)).alloc (.cells (cellsOf .u8 (mk 4 zeroK)) 80)) (w.heap.size + 1) .u8 80 (mk 4 zeroK) := blk_two w .u8 80 (mk 4 zeroK) _
  have hb := below_two w (.cells (cellsOf .u8 (mk 4 f)) 80) (.cells (cellsOf .u8 (mk 4 zeroK)) 80)
  have HD := Lib.hid hd
  have HB := Lib.hid hb
  clear hd hb
  go_enter Try.func78, Try.ntmps78
  have g0 : (cellsOf .u8 (mk 4 f))[0]? = some (.int .u8 (f 0)) := by rw [cellsOf_get _ _ (by rw [mk_len]; omega), mk_get (by omega)]
  have g1 : (cellsOf .u8 (mk 4 f))[1]? = some (.int .u8 (f 1)) := by rw [cellsOf_get _ _ (by rw [mk_len]; omega), mk_get (by omega)]
  have g2 : (cellsOf .u8 (mk 4 f))[2]? = some (.int .u8 (f 2)) := by rw [cellsOf_get _ _ (by rw [mk_len]; omega), mk_get (by omega)]
  have g3 : (cellsOf .u8 (mk 4 f))[3]? = some (.int .u8 (f 3)) := by rw [cellsOf_get _ _ (by rw [mk_len]; omega), mk_get (by omega)]
  go_wp2_with (first
    | (refine wpList_buildTo rfl 80 _ rfl (some 11) rfl (cellsOf .u8 (mk 4 (turnK f))) (by kernel_rfl) ?_)
    | (refine wpList_store_row rfl 80 _ _ rfl (w.heap.size + 1) (cellsOf .u8 (mk 4 (turnK f))) rfl rfl 80 (cellsOf .u8 (mk 4 zeroK)) HD.out (wordSize _) (by rw [cellsOf_size, cellsOf_size, mk_len, mk_len]) (cellsOf_one _ _) ?_))
  refine bodyPost_ret (results_cell_row rfl _ _ (w.heap.size + 1) 80 (cellsOf .u8 (mk 4 (turnK f))) (0, 0) _ rfl (HD.out.setRow .u8 (mk 4 (turnK f))) wordUnder rfl (wordSize _)) rfl ⟨rfl, below_setRow HB.out (by omega) _⟩
end Go.Proofs.Ytklnnmlegagfoaa

/- The contracts of package cipher's Shift and Unshift: each answers the key that the plain functions say, and writes nothing that was there. Condition: the key's bytes are bytes. -/
namespace Go.Proofs.Ytklnnmlegagfoaa
open Go.ChangeShapes Go.WideShapes Go.ChangeAt Go.RowKit

/-- The place from which a byte comes; and back. -/
def fromN (k : Nat) : Nat := (k + 4 * (k % 4)) % 16
def backP (k : Nat) : Nat := (k + 12 * (k % 4)) % 16
theorem fromN_lt (k : Nat) : fromN k < 16 := by unfold fromN; omega
theorem backP_lt (k : Nat) : backP k < 16 := by unfold backP; omega
theorem from_back {k : Nat} (h : k < 16) : fromN (backP k) = k := by
  have t : ∀ a : Fin 16, fromN (backP a.val) = a.val := by decide +kernel
  exact t ⟨k, h⟩
theorem back_from {k : Nat} (h : k < 16) : backP (fromN k) = k := by
  have t : ∀ a : Fin 16, backP (fromN a.val) = a.val := by decide +kernel
  exact t ⟨k, h⟩
def shK (f : Nat → Nat) (j : Nat) : Nat := f (fromN j)
def unK (f : Nat → Nat) (j : Nat) : Nat := f (backP j)
theorem shK_key {f : Nat → Nat} (h : IsKey f) : IsKey (shK f) := fun j _ => h _ (fromN_lt j)
theorem unK_key {f : Nat → Nat} (h : IsKey f) : IsKey (unK f) := fun j _ => h _ (backP_lt j)
def shTo (f : Nat → Nat) (k : Nat) : Nat → Nat := fun j => if j < k then shK f j else 0
theorem shTo_start (f : Nat → Nat) : mk 16 (shTo f 0) = mk 16 zeroK := mk_ext fun j _ => by unfold shTo zeroK; rw [if_neg (by omega)]
theorem shTo_end (f : Nat → Nat) : mk 16 (shTo f 16) = mk 16 (shK f) := mk_ext fun j hj => by unfold shTo; rw [if_pos hj]
theorem shTo_step (f : Nat → Nat) (k : Nat) : (mk 16 (shTo f k)).set k (f (fromN k) : Nat) = mk 16 (shTo f (k + 1)) := by
  refine mk_set_is rfl fun j _ => ?_
  unfold shTo
  by_cases e : j = k
  · subst e; rw [if_pos rfl, if_pos (by omega)]; rfl
  · rw [if_neg e]
    by_cases l : j < k
    · rw [if_pos l, if_pos (by omega)]
    · rw [if_neg l, if_neg (by omega)]
def unTo (f : Nat → Nat) (k : Nat) : Nat → Nat := fun j => if backP j < k then unK f j else 0
theorem unTo_start (f : Nat → Nat) : mk 16 (unTo f 0) = mk 16 zeroK := mk_ext fun j _ => by unfold unTo zeroK; rw [if_neg (by omega)]
theorem unTo_end (f : Nat → Nat) : mk 16 (unTo f 16) = mk 16 (unK f) := mk_ext fun j hj => by unfold unTo; rw [if_pos (backP_lt j)]
theorem unTo_step (f : Nat → Nat) {k : Nat} (hk : k < 16) : (mk 16 (unTo f k)).set (fromN k) (f k : Nat) = mk 16 (unTo f (k + 1)) := by
  refine mk_set_is rfl fun j hj => ?_
  unfold unTo
  by_cases e : j = fromN k
  · subst e; rw [if_pos rfl, back_from hk, if_pos (by omega)]; unfold unK; rw [back_from hk]
  · have ne : backP j ≠ k := fun h => e (by rw [← h, from_back hj])
    rw [if_neg e]
    by_cases l : backP j < k
    · rw [if_pos l, if_pos (by omega)]
    · rw [if_neg l, if_neg (by omega)]

set_option maxHeartbeats 400000 in
theorem from_any (k : Nat) (hk : k < 16) (w : World) :
    Calls Try.prog 68 #[.int .i64 k] w fun e w' => e = .returned (.int .i64 (fromN k : Nat)) ∧ w = w' := by
  have e1 : (k : Int).tmod 4 = (k : Int) % 4 := IntWalk.rem_in _ _ (by omega)
  go_enter Try.func68, Try.ntmps68
  go_wp2
  go_ret
  have e2 : ((fromN k : Nat) : Int) = ((k : Int) + 4 * ((k : Int) % 4)) % 16 := by unfold fromN; omega
  rw [e2]; exact ⟨rfl, rfl⟩
attribute [local irreducible] fromN backP

set_option maxRecDepth 100000 in
set_option maxHeartbeats 1000000 in
theorem Shift_any (f : Nat → Nat) (w : World) :
    Calls Try.prog 54 #[.agg (cellsOf .u8 (mk 16 f))] w fun e w' => e = .returned (.agg (cellsOf .u8 (mk 16 (shK f)))) ∧ Below w.heap.size w w' := by
  go_enter Try.func54, Try.ntmps54
  go_wp2
  go_loopw [5] (fun v5 wr => ∃ k : Nat, k ≤ 16 ∧ v5 = .int .i64 k ∧ IntBlk wr w.heap.size .u8 25 (mk 16 f) ∧ IntBlk wr (w.heap.size + 1) .u8 25 (mk 16 zeroK) ∧ IntBlk wr (w.heap.size + 1 + 1) .u8 25 (mk 16 (shTo f k)) ∧ Below w.heap.size w wr) (fun v5 _ => 16 - (intOf v5).toNat)
  case atStart => exact ⟨0, by omega, rfl, blk_first w .u8 _ (mk 16 f) _ _, blk_second w .u8 _ (mk 16 zeroK) _ _, by rw [shTo_start]; exact blk_third w .u8 _ (mk 16 zeroK) _ _, below_three w _ _ _⟩
  case round =>
    obtain ⟨k, hk, rfl, ha, hz, hd, hw⟩ := hrel
    have HA := Lib.hid ha
    have HZ := Lib.hid hz
    have HD := Lib.hid hd
    have HW := Lib.hid hw
    by_cases hlt : k < 16
    · have hx := fromN_lt k
      have c1 := ha.cell (i := fromN k) (by rw [mk_len]; exact hx)
      rw [mk_get hx] at c1
      have f1 := ha.free (fromN k)
      have c3 := hd.cell (i := k) (by rw [mk_len]; exact hlt)
      have f3 := hd.free k
      clear ha hz hd hw
      go_wp2_with (go_at_call 68; refine (from_any _ (by omega) _).mono ?_; rintro e w' ⟨rfl, rfl⟩)
      go_roundw
      case rel => exact ⟨k + 1, by omega, by go_num, HA.out.other (by show w.heap.size + 1 + 1 ≠ w.heap.size; omega) _, HZ.out.other (by show w.heap.size + 1 + 1 ≠ w.heap.size + 1; omega) _, by rw [← shTo_step]; exact HD.out.set k _, HW.out.setCell (by show w.heap.size ≤ w.heap.size + 1 + 1; omega) _⟩
      case measure => simp [intOf]; omega
    · obtain rfl : k = 16 := by omega
      clear ha hz hd hw
      go_wp2_with (first
        | (refine wpList_load_row rfl 25 _ rfl (w.heap.size + 1 + 1) rfl 25 (cellsOf .u8 (mk 16 (shK f))) (0, 0) _ (by rw [← shTo_end]; exact HD.out) keyUnder rfl (keySize _) ?_)
        | (refine wpList_store_row rfl 25 _ _ rfl (w.heap.size + 1) _ rfl rfl 25 (cellsOf .u8 (mk 16 zeroK)) HZ.out (keySize _) (by rw [cellsOf_size, cellsOf_size, mk_len, mk_len]) (cellsOf_one _ _) ?_))
      refine bodyPost_ret (results_cell_row rfl _ _ (w.heap.size + 1) 25 (cellsOf .u8 (mk 16 (shK f))) (0, 0) _ rfl (HZ.out.setRow .u8 (mk 16 (shK f))) keyUnder rfl (keySize _)) rfl ⟨rfl, below_setRow HW.out (by omega) _⟩

set_option maxRecDepth 100000 in
set_option maxHeartbeats 1000000 in
theorem Unshift_any (f : Nat → Nat) (hf : IsKey f) (w : World) :
    Calls Try.prog 65 #[.agg (cellsOf .u8 (mk 16 f))] w fun e w' => e = .returned (.agg (cellsOf .u8 (mk 16 (unK f)))) ∧ Below w.heap.size w w' := by
  go_enter Try.func65, Try.ntmps65
  go_wp2_with (refine wpList_load_row rfl 25 _ rfl w.heap.size rfl 25 (cellsOf .u8 (mk 16 f)) (0, 0) _ (((IntBlk.new w .u8 25 (mk 16 f)).alloc _).alloc _) keyUnder rfl (keySize f) ?_)
  go_loopw [7] (fun v7 wr => ∃ k : Nat, k ≤ 16 ∧ v7 = .int .i64 k ∧ IntBlk wr (w.heap.size + 1) .u8 25 (mk 16 zeroK) ∧ IntBlk wr (w.heap.size + 1 + 1) .u8 25 (mk 16 (unTo f k)) ∧ Below w.heap.size w wr) (fun v7 _ => 16 - (intOf v7).toNat)
  case atStart => exact ⟨0, by omega, rfl, blk_second w .u8 _ (mk 16 zeroK) _ _, by rw [unTo_start]; exact blk_third w .u8 _ (mk 16 zeroK) _ _, below_three w _ _ _⟩
  case round =>
    obtain ⟨k, hk, rfl, hz, hd, hw⟩ := hrel
    have HZ := Lib.hid hz
    have HD := Lib.hid hd
    have HW := Lib.hid hw
    by_cases hlt : k < 16
    · have hx := fromN_lt k
      have hb := hf k hlt
      have ki := key_index f hlt
      have c3 := hd.cell (i := fromN k) (by rw [mk_len]; exact hx)
      have f3 := hd.free (fromN k)
      clear hz hd hw
      go_wp2_with (go_at_call 68; refine (from_any _ (by omega) _).mono ?_; rintro e w' ⟨rfl, rfl⟩)
      go_roundw
      case rel => exact ⟨k + 1, by omega, by go_num, HZ.out.other (by show w.heap.size + 1 + 1 ≠ w.heap.size + 1; omega) _, by rw [← unTo_step f hlt]; exact HD.out.set (fromN k) _, HW.out.setCell (by show w.heap.size ≤ w.heap.size + 1 + 1; omega) _⟩
      case measure => simp [intOf]; omega
    · obtain rfl : k = 16 := by omega
      clear hz hd hw
      go_wp2_with (first
        | (refine wpList_load_row rfl 25 _ rfl (w.heap.size + 1 + 1) rfl 25 (cellsOf .u8 (mk 16 (unK f))) (0, 0) _ (by rw [← unTo_end]; exact HD.out) keyUnder rfl (keySize _) ?_)
        | (refine wpList_store_row rfl 25 _ _ rfl (w.heap.size + 1) _ rfl rfl 25 (cellsOf .u8 (mk 16 zeroK)) HZ.out (keySize _) (by rw [cellsOf_size, cellsOf_size, mk_len, mk_len]) (cellsOf_one _ _) ?_))
      refine bodyPost_ret (results_cell_row rfl _ _ (w.heap.size + 1) 25 (cellsOf .u8 (mk 16 (unK f))) (0, 0) _ rfl (HZ.out.setRow .u8 (mk 16 (unK f))) keyUnder rfl (keySize _)) rfl ⟨rfl, below_setRow HW.out (by omega) _⟩
end Go.Proofs.Ytklnnmlegagfoaa

/- The contracts of package cipher's multiply, Mix and Unmix: each answers the column that the plain functions say, and writes nothing that was there. Condition: the columns' bytes are bytes. -/
namespace Go.Proofs.Ytklnnmlegagfoaa
open Go.ChangeShapes Go.WideShapes Go.ChangeAt Go.RowKit

def IsWord (f : Nat → Nat) : Prop := ∀ i, i < 4 → f i < 256
/-- The sum of the first n products for byte k. -/
def mxS (f g : Nat → Nat) (k : Nat) : Nat → Nat
  | 0 => 0
  | n + 1 => mxS f g k n ^^^ mul (f n) (g ((n + 4 - k) % 4))
def mxK (f g : Nat → Nat) (k : Nat) : Nat := mxS f g k 4
def mxTo (f g : Nat → Nat) (k n : Nat) : Nat → Nat := fun j => if j < k then mxK f g j else if j = k then mxS f g k n else 0
theorem mxS_lt {f g : Nat → Nat} (hf : IsWord f) (k : Nat) : ∀ n, n ≤ 4 → mxS f g k n < 256
  | 0, _ => by unfold mxS; omega
  | n + 1, h => xor_lt (mxS_lt hf k n (by omega)) (mul_lt (hf n (by omega)))
theorem mxK_word {f g : Nat → Nat} (hf : IsWord f) : IsWord (mxK f g) := fun k _ => mxS_lt hf k 4 (by omega)
theorem mxTo_start (f g : Nat → Nat) : mk 4 (mxTo f g 0 0) = mk 4 zeroK := mk_ext fun j _ => by
  unfold mxTo zeroK; rw [if_neg (by omega)]; split <;> rfl
theorem mxTo_end (f g : Nat → Nat) : mk 4 (mxTo f g 4 0) = mk 4 (mxK f g) := mk_ext fun j hj => by unfold mxTo; rw [if_pos hj]
theorem mxTo_next (f g : Nat → Nat) (k : Nat) : mk 4 (mxTo f g k 4) = mk 4 (mxTo f g (k + 1) 0) := mk_ext fun j hj => by
  unfold mxTo
  by_cases e : j = k
  · subst e; rw [if_neg (by omega), if_pos rfl, if_pos (by omega)]; rfl
  · by_cases l : j < k
    · rw [if_pos l, if_pos (by omega)]
    · rw [if_neg l, if_neg e, if_neg (by omega)]; split <;> rfl
theorem mxTo_at (f g : Nat → Nat) (k n : Nat) : mxTo f g k n k = mxS f g k n := by unfold mxTo; rw [if_neg (by omega), if_pos rfl]
theorem mxTo_step (f g : Nat → Nat) (k n : Nat) {s v : Nat} (hs : mxS f g k n = s) (hv : mul (f n) (g ((n + 4 - k) % 4)) = v) : (mk 4 (mxTo f g k n)).set k ((s ^^^ v : Nat) : Int) = mk 4 (mxTo f g k (n + 1)) := by
  subst hs hv
  refine mk_set_is rfl fun j _ => ?_
  unfold mxTo
  by_cases e : j = k
  · subst e; rw [if_pos rfl, if_neg (by omega), if_pos rfl]; rfl
  · rw [if_neg e]
    by_cases l : j < k
    · rw [if_pos l, if_pos l]
    · rw [if_neg l, if_neg l, if_neg e, if_neg e]
theorem Mul_nat (x y : Nat) (hx : x < 256) (hy : y < 256) (w : World) :
    Calls Try.prog 76 #[.int .u8 (x : Int), .int .u8 (y : Int)] w fun e w' => e = .returned (.int .u8 (mul x y : Nat)) ∧ w' = w :=
  (Mul_any x y (by omega) (by omega) (by omega) (by omega) w).mono fun _ _ ⟨he, hw⟩ => ⟨by rw [he]; simp [mulI], hw.symm⟩
attribute [local irreducible] mul mxS

set_option maxRecDepth 100000 in
set_option maxHeartbeats 2000000 in
theorem multiply_any (f g : Nat → Nat) (hf : IsWord f) (hg : IsWord g) (w : World) :
    Calls Try.prog 70 #[.agg (cellsOf .u8 (mk 4 f)), .agg (cellsOf .u8 (mk 4 g))] w fun e w' => e = .returned (.agg (cellsOf .u8 (mk 4 (mxK f g)))) ∧ Below w.heap.size w w' := by
  go_enter Try.func70, Try.ntmps70
  go_wp2
  go_loopw [9] (fun v9 wr => ∃ k : Nat, k ≤ 4 ∧ v9 = .int .i64 k ∧ IntBlk wr w.heap.size .u8 80 (mk 4 f) ∧ IntBlk wr (w.heap.size + 1) .u8 80 (mk 4 g) ∧ IntBlk wr (w.heap.size + 1 + 1) .u8 80 (mk 4 zeroK) ∧ IntBlk wr (w.heap.size + 1 + 1 + 1) .u8 80 (mk 4 (mxTo f g k 0)) ∧ Below w.heap.size w wr) (fun v9 _ => 4 - (intOf v9).toNat)
  case atStart => exact ⟨0, by omega, rfl, (blk_first w .u8 _ (mk 4 f) _ _).alloc _, (blk_second w .u8 _ (mk 4 g) _ _).alloc _, (blk_third w .u8 _ (mk 4 zeroK) _ _).alloc _, by rw [mxTo_start]; exact blk_fourth w .u8 _ (mk 4 zeroK) _ _ _, below_four w _ _ _ _⟩
  case round =>
    obtain ⟨k, hk, rfl, ha, hb, hz, hd, hw⟩ := hrel
    have HA := Lib.hid ha
    have HB := Lib.hid hb
    have HZ := Lib.hid hz
    have HD := Lib.hid hd
    have HW := Lib.hid hw
    clear ha hb hz hd hw
    by_cases hlt : k < 4
    · have hr1 : decide ((k : Int) < 4) = true := by simp; omega
      go_wp2_with (refine wpList_load_row rfl 80 _ rfl w.heap.size rfl 80 (cellsOf .u8 (mk 4 f)) (0, 0) _ HA.out wordUnder rfl (wordSize f) ?_)
      go_loopw [13] (fun v13 wr => ∃ i : Nat, i ≤ 4 ∧ v13 = .int .i64 i ∧ IntBlk wr w.heap.size .u8 80 (mk 4 f) ∧ IntBlk wr (w.heap.size + 1) .u8 80 (mk 4 g) ∧ IntBlk wr (w.heap.size + 1 + 1) .u8 80 (mk 4 zeroK) ∧ IntBlk wr (w.heap.size + 1 + 1 + 1) .u8 80 (mk 4 (mxTo f g k i)) ∧ Below w.heap.size w wr) (fun v13 _ => 4 - (intOf v13).toNat)
      case atStart => exact ⟨0, by omega, rfl, HA.out, HB.out, HZ.out, HD.out, HW.out⟩
      case round =>
        clear HA HB HZ HD HW
        obtain ⟨i, hi, rfl, ha, hb, hz, hd, hw⟩ := hrel
        have HA := Lib.hid ha
        have HB := Lib.hid hb
        have HZ := Lib.hid hz
        have HD := Lib.hid hd
        have HW := Lib.hid hw
        by_cases hli : i < 4
        · have hp : (i + 4 - k) % 4 < 4 := by omega
          have c1 := hd.cell (i := k) (by rw [mk_len]; exact hlt)
          rw [mk_get hlt, mxTo_at] at c1
          have f1 := hd.free k
          have c2 := hb.cell (i := (i + 4 - k) % 4) (by rw [mk_len]; exact hp)
          rw [mk_get hp] at c2
          have f2 := hb.free ((i + 4 - k) % 4)
          have ki := word_index f hli
          have hx := hf i hli
          have hy := hg _ hp
          have hs := mxS_lt (g := g) hf k i (by omega)
          have hm := mul_lt (b := g ((i + 4 - k) % 4)) hx
          have CM := Lib.hid (fun W => Mul_nat _ _ hx hy W)
          have hv := mxTo_step f g k i rfl rfl
          have bx := bits_xor_u8 hs hm
          generalize mxS f g k i = s at *
          generalize mul (f i) (g ((i + 4 - k) % 4)) = m at *
          have HV := Lib.hid hv
          clear ha hb hz hd hw hv
          have e1 : (k : Int) < 4 := by omega
          have e2 : (0 : Int) ≤ k := by omega
          have e3 : (i : Int) < 4 := by omega
          have e4 : (0 : Int) ≤ i := by omega
          have q1 : IntKind.i64.wrap ((i : Int) - k) = (i : Int) - k := IntWalk.i64_in _ (by omega)
          have q2 : IntKind.i64.wrap ((i : Int) - k + 4) = (i : Int) - k + 4 := IntWalk.i64_in _ (by omega)
          have q3 : ((i : Int) - k + 4).tmod 4 = ((i : Int) - k) % 4 := by rw [IntWalk.rem_in _ _ (by omega)]; omega
          have q4 : (0 : Int) ≤ ((i : Int) - k) % 4 := by omega
          have q5 : ((i : Int) - k) % 4 < 4 := by omega
          have q6 : (((i : Int) - k) % 4).toNat = (i + 4 - k) % 4 := by omega
          go_wp2
          refine wp_region_still_tail 14 (by kernel_rfl) (by kernel_rfl) ?_
          simp only [List.take_succ_cons, List.take_zero, List.drop_succ_cons, List.drop_zero]
          change wpStill _ _ wr.drew (fun a' => wpList _ _ _ _ a' wr.drew) _ _
          iterate 11 still_step
          refine wpStill_step (fun K hK => ?_)
          go_simp
          refine ⟨_, CM.out _, hK _ ?_⟩
          clear hK K
          iterate 2 still_step
          refine wpStill_nil ?_
          go_wp2
          go_roundw
          case rel => exact ⟨i + 1, by omega, by go_num, (HA.out.other (by show w.heap.size + 1 + 1 + 1 ≠ w.heap.size; omega) _).drew, (HB.out.other (by show w.heap.size + 1 + 1 + 1 ≠ w.heap.size + 1; omega) _).drew, (HZ.out.other (by show w.heap.size + 1 + 1 + 1 ≠ w.heap.size + 1 + 1; omega) _).drew, by rw [← HV.out]; exact (HD.out.set k _).drew, (HW.out.setCell (by show w.heap.size ≤ w.heap.size + 1 + 1 + 1; omega) _).drew⟩
          case measure => simp [intOf]; omega
        · obtain rfl : i = 4 := by omega
          clear ha hb hz hd hw
          go_wp2
          go_roundw
          case rel => exact ⟨k + 1, by omega, by go_num, HA.out, HB.out, HZ.out, by rw [← mxTo_next]; exact HD.out, HW.out⟩
          case measure => simp [intOf]; omega
    · obtain rfl : k = 4 := by omega
      go_wp2_with (first
        | (refine wpList_load_row rfl 80 _ rfl (w.heap.size + 1 + 1 + 1) rfl 80 (cellsOf .u8 (mk 4 (mxK f g))) (0, 0) _ (by rw [← mxTo_end]; exact HD.out) wordUnder rfl (wordSize _) ?_)
        | (refine wpList_store_row rfl 80 _ _ rfl (w.heap.size + 1 + 1) _ rfl rfl 80 (cellsOf .u8 (mk 4 zeroK)) HZ.out (wordSize _) (by rw [cellsOf_size, cellsOf_size, mk_len, mk_len]) (cellsOf_one _ _) ?_))
      refine bodyPost_ret (results_cell_row rfl _ _ (w.heap.size + 1 + 1) 80 (cellsOf .u8 (mk 4 (mxK f g))) (0, 0) _ rfl (HZ.out.setRow .u8 (mk 4 (mxK f g))) wordUnder rfl (wordSize _)) rfl ⟨rfl, below_setRow HW.out (by omega) _⟩

/-- The factors. -/
def facM : Nat → Nat := fun i => if i = 0 then 2 else if i = 1 then 3 else 1
def facU : Nat → Nat := fun i => if i = 0 then 14 else if i = 1 then 11 else if i = 2 then 13 else 9
theorem facM_word : IsWord facM := fun i _ => by unfold facM; (repeat' split) <;> omega
theorem facU_word : IsWord facU := fun i _ => by unfold facU; (repeat' split) <;> omega
def mixK (f : Nat → Nat) : Nat → Nat := mxK f facM
def unmK (f : Nat → Nat) : Nat → Nat := mxK f facU
theorem mixK_word {f : Nat → Nat} (hf : IsWord f) : IsWord (mixK f) := mxK_word hf
theorem unmK_word {f : Nat → Nat} (hf : IsWord f) : IsWord (unmK f) := mxK_word hf

set_option maxRecDepth 100000 in
set_option maxHeartbeats 1000000 in
theorem Mix_any (f : Nat → Nat) (hf : IsWord f) (w : World) :
    Calls Try.prog 57 #[.agg (cellsOf .u8 (mk 4 f))] w fun e w' => e = .returned (.agg (cellsOf .u8 (mk 4 (mixK f)))) ∧ Below w.heap.size w w' := by
  go_enter Try.func57, Try.ntmps57
  go_wp2_with (first
    | (refine wpList_load_row rfl 80 _ rfl w.heap.size rfl 80 (cellsOf .u8 (mk 4 f)) (0, 0) _ ((IntBlk.new w .u8 80 (mk 4 f)).alloc _) wordUnder rfl (wordSize f) ?_)
    | fail)
  refine (multiply_any f facM hf facM_word _).mono ?_
  rintro e w1 ⟨rfl, hb⟩
  have hz := (blk_two w .u8 80 (mk 4 zeroK) (.cells (cellsOf .u8 (mk 4 f)) 80)).below hb (by simp)
  have hw := (below_two w _ _).trans (hb.mono (by simp; omega))
  have HZ := Lib.hid hz
  have HW := Lib.hid hw
  clear hz hw hb
  go_wp2_with (refine wpList_store_row rfl 80 _ _ rfl (w.heap.size + 1) _ rfl rfl 80 (cellsOf .u8 (mk 4 zeroK)) HZ.out (wordSize _) (by rw [cellsOf_size, cellsOf_size, mk_len, mk_len]) (cellsOf_one _ _) ?_)
  refine bodyPost_ret (results_cell_row rfl _ _ (w.heap.size + 1) 80 (cellsOf .u8 (mk 4 (mixK f))) (0, 0) _ rfl (HZ.out.setRow .u8 (mk 4 (mixK f))) wordUnder rfl (wordSize _)) rfl ⟨rfl, below_setRow HW.out (by omega) _⟩

set_option maxRecDepth 100000 in
set_option maxHeartbeats 1000000 in
theorem Unmix_any (f : Nat → Nat) (hf : IsWord f) (w : World) :
    Calls Try.prog 63 #[.agg (cellsOf .u8 (mk 4 f))] w fun e w' => e = .returned (.agg (cellsOf .u8 (mk 4 (unmK f)))) ∧ Below w.heap.size w w' := by
  go_enter Try.func63, Try.ntmps63
  go_wp2_with (first
    | (refine wpList_load_row rfl 80 _ rfl w.heap.size rfl 80 (cellsOf .u8 (mk 4 f)) (0, 0) _ ((IntBlk.new w .u8 80 (mk 4 f)).alloc _) wordUnder rfl (wordSize f) ?_)
    | fail)
  refine (multiply_any f facU hf facU_word _).mono ?_
  rintro e w1 ⟨rfl, hb⟩
  have hz := (blk_two w .u8 80 (mk 4 zeroK) (.cells (cellsOf .u8 (mk 4 f)) 80)).below hb (by simp)
  have hw := (below_two w _ _).trans (hb.mono (by simp; omega))
  have HZ := Lib.hid hz
  have HW := Lib.hid hw
  clear hz hw hb
  go_wp2_with (refine wpList_store_row rfl 80 _ _ rfl (w.heap.size + 1) _ rfl rfl 80 (cellsOf .u8 (mk 4 zeroK)) HZ.out (wordSize _) (by rw [cellsOf_size, cellsOf_size, mk_len, mk_len]) (cellsOf_one _ _) ?_)
  refine bodyPost_ret (results_cell_row rfl _ _ (w.heap.size + 1) 80 (cellsOf .u8 (mk 4 (unmK f))) (0, 0) _ rfl (HZ.out.setRow .u8 (mk 4 (unmK f))) wordUnder rfl (wordSize _)) rfl ⟨rfl, below_setRow HW.out (by omega) _⟩
end Go.Proofs.Ytklnnmlegagfoaa

/- The contract of package cipher's columns, with Mix and with Unmix: each column of the key is changed by itself, and nothing is written that was there. Condition: the key's bytes are bytes. -/
namespace Go.Proofs.Ytklnnmlegagfoaa
open Go.ChangeShapes Go.WideShapes Go.ChangeAt Go.RowKit

/-- Column c of a key. -/
def colAt (f : Nat → Nat) (c : Nat) : Nat → Nat := fun i => f (4 * c + i)
def colK (m : (Nat → Nat) → Nat → Nat) (f : Nat → Nat) (j : Nat) : Nat := m (colAt f (j / 4)) (j % 4)
def colTo (m : (Nat → Nat) → Nat → Nat) (f : Nat → Nat) (c : Nat) : Nat → Nat := fun j => if j < 4 * c then colK m f j else f j
theorem colAt_word {f : Nat → Nat} (h : IsKey f) {c : Nat} (hc : c < 4) : IsWord (colAt f c) := fun i hi => h _ (by omega)
theorem colTo_start (m : (Nat → Nat) → Nat → Nat) (f : Nat → Nat) : mk 16 (colTo m f 0) = mk 16 f := mk_ext fun j _ => by unfold colTo; rw [if_neg (by omega)]
theorem colTo_end (m : (Nat → Nat) → Nat → Nat) (f : Nat → Nat) : mk 16 (colTo m f 4) = mk 16 (colK m f) := mk_ext fun j hj => by unfold colTo; rw [if_pos (by omega)]
theorem colTo_at (m : (Nat → Nat) → Nat → Nat) (f : Nat → Nat) (c : Nat) : (fun i => colTo m f c (4 * c + i)) = colAt f c := by
  funext i; unfold colTo; rw [if_neg (by omega)]; rfl
theorem colTo_step (m : (Nat → Nat) → Nat → Nat) (f : Nat → Nat) (c : Nat) : mk 16 (put (colTo m f c) (4 * c) 4 (m (colAt f c))) = mk 16 (colTo m f (c + 1)) := mk_ext fun j hj => by
  unfold put colTo
  by_cases h : 4 * c ≤ j ∧ j < 4 * c + 4
  · rw [if_pos h, if_pos (by omega)]; unfold colK; rw [show j / 4 = c by omega, show j % 4 = j - 4 * c by omega]
  · rw [if_neg h]
    by_cases l : j < 4 * c
    · rw [if_pos l, if_pos (by omega)]
    · rw [if_neg l, if_neg (by omega)]
theorem colTo_steps (m : (Nat → Nat) → Nat → Nat) (f : Nat → Nat) {c n : Nat} (hn : n = 4 * c) : mk 16 (put (colTo m f c) n 4 (m (colAt f c))) = mk 16 (colTo m f (c + 1)) := by subst hn; exact colTo_step m f c
theorem put_all (n : Nat) (F g : Nat → Nat) : mk n (put F 0 n g) = mk n g := mk_ext fun j hj => by unfold put; rw [if_pos (by omega), Nat.sub_zero]
theorem mixCol_key {f : Nat → Nat} (h : IsKey f) : IsKey (colK mixK f) := fun j hj => mixK_word (colAt_word h (by omega)) _ (by omega)
theorem unmCol_key {f : Nat → Nat} (h : IsKey f) : IsKey (colK unmK f) := fun j hj => unmK_word (colAt_word h (by omega)) _ (by omega)
attribute [local irreducible] mixK unmK

set_option maxRecDepth 100000 in
set_option maxHeartbeats 2000000 in
theorem mixCols_any (f : Nat → Nat) (hf : IsKey f) (w : World) :
    Calls Try.prog 56 #[.agg (cellsOf .u8 (mk 16 f)), .func (.func 57) #[] #[]] w fun e w' => e = .returned (.agg (cellsOf .u8 (mk 16 (colK mixK f)))) ∧ Below w.heap.size w w' := by
  go_enter Try.func56, Try.ntmps56
  go_wp2
  go_loopw [5] (fun v5 wr => ∃ c n : Nat, c ≤ 4 ∧ n = 4 * c ∧ v5 = .int .i64 n ∧ IntBlk wr w.heap.size .u8 25 (mk 16 (colTo mixK f c)) ∧ IntBlk wr (w.heap.size + 1) .u8 25 (mk 16 zeroK) ∧ Below w.heap.size w wr) (fun v5 _ => 16 - (intOf v5).toNat)
  case atStart => exact ⟨0, 0, by omega, rfl, rfl, by rw [colTo_start]; exact (IntBlk.new w .u8 25 (mk 16 f)).alloc _, blk_two w .u8 25 (mk 16 zeroK) _, below_two w _ _⟩
  case round =>
    obtain ⟨c, n, hc, hn, rfl, ha, hz, hw⟩ := hrel
    have hs : w.heap.size + 1 < wr.heap.size := hz.lt
    have HA := Lib.hid ha
    have HZ := Lib.hid hz
    have HW := Lib.hid hw
    have HN := Lib.hid hn
    by_cases hlt : n < 16
    · have hc4 : c < 4 := by omega
      have CA : Cells (wr.alloc (.cells (cellsOf .u8 (mk 4 zeroK)) 80)).drew w.heap.size n 4 (colAt f c) := by
        have := ((ha.alloc (.cells (cellsOf .u8 (mk 4 zeroK)) 80)).drew).cells (o := n) (n := 4) (by omega)
        rw [hn] at this ⊢
        rw [colTo_at] at this; exact this
      have BD := (IntBlk.new wr .u8 80 (mk 4 zeroK)).drew
      have BA := (ha.alloc (.cells (cellsOf .u8 (mk 4 zeroK)) 80)).drew
      have BZ := (hz.alloc (.cells (cellsOf .u8 (mk 4 zeroK)) 80)).drew
      have BW := (hw.alloc (by omega) (.cells (cellsOf .u8 (mk 4 zeroK)) 80)).drew
      have hn12 : 4 ≤ 16 - n := by omega
      have hcol := colAt_word hf hc4
      clear ha hz hw hn
      go_wp2
      have e1 : (n : Int) < 16 := by omega
      have e2 : (0 : Int) ≤ n := by omega
      have e3 : (n : Int) ≤ 16 := by omega
      have e4 : ¬ (16 = n) := by omega
      refine wp_region_still_tail 3 (by kernel_rfl) (by kernel_rfl) ?_
      simp only [List.take_succ_cons, List.take_zero, List.drop_succ_cons, List.drop_zero]
      iterate 3 still_step
      refine wpStill_nil ?_
      change wpList _ _ _ _ _ (wr.alloc (.cells (cellsOf .u8 (mk 4 zeroK)) 80)).drew
      generalize (wr.alloc (.cells (cellsOf .u8 (mk 4 zeroK)) 80)).drew = w1 at *
      refine wpList_copy_part rfl _ _ _ _ rfl 5 bytesUnder byteInfo wr.heap.size 0 4 4 w.heap.size n (16 - n) (16 - n) 4 4 zeroK (colAt f c) rfl rfl 80 BD (by omega) (Nat.min_eq_right hn12).symm CA ?_
      have BD2 := BD.setRow .u8 (mk 4 (put zeroK 0 4 (colAt f c)))
      rw [put_all] at BD2 ⊢
      have BA2 := BA.otherRow (C := wr.heap.size) (by omega) (cellsOf .u8 (mk 4 (colAt f c)))
      have BZ2 := BZ.otherRow (C := wr.heap.size) (by omega) (cellsOf .u8 (mk 4 (colAt f c)))
      have BW2 := below_setRow BW (g := wr.heap.size) (by omega) (cellsOf .u8 (mk 4 (colAt f c)))
      generalize w1.setRow wr.heap.size (cellsOf .u8 (mk 4 (colAt f c))) = w2 at *
      have HD2 := Lib.hid BD2
      clear CA BD BA BZ BW BD2 HA HZ HW
      go_wp2_with (first
        | (refine wpList_load_row rfl 80 _ rfl wr.heap.size rfl 80 (cellsOf .u8 (mk 4 (colAt f c))) (0, 0) _ HD2.out wordUnder rfl (wordSize _) ?_)
        | fail)
      refine (Mix_any (colAt f c) hcol _).mono ?_
      rintro e w3 ⟨rfl, hb3⟩
      have HD3 := Lib.hid (HD2.out.below hb3 HD2.out.lt)
      have HA3 := Lib.hid (BA2.below hb3 BA2.lt)
      have HZ3 := Lib.hid (BZ2.below hb3 BZ2.lt)
      have HW3 := Lib.hid (BW2.trans (hb3.mono BW2.size))
      clear hb3 HD2 BA2 BZ2 BW2
      go_wp2_with (first
        | (refine store_row_on rfl 80 _ _ rfl rfl wr.heap.size (cellsOf .u8 (mk 4 (mixK (colAt f c)))) rfl rfl 80 (cellsOf .u8 (mk 4 (colAt f c))) HD3.out (wordSize _) (by rw [cellsOf_size, cellsOf_size, mk_len, mk_len]) (cellsOf_one _ _) ?_)
        | fail)
      have BD4 := (HD3.out.setRow .u8 (mk 4 (mixK (colAt f c)))).drew
      have BA4 := (HA3.out.otherRow (C := wr.heap.size) (by omega) (cellsOf .u8 (mk 4 (mixK (colAt f c))))).drew
      have BZ4 := (HZ3.out.otherRow (C := wr.heap.size) (by omega) (cellsOf .u8 (mk 4 (mixK (colAt f c))))).drew
      have BW4 := (below_setRow HW3.out (g := wr.heap.size) (by omega) (cellsOf .u8 (mk 4 (mixK (colAt f c))))).drew
      refine wp_region_still_tail 3 (by kernel_rfl) (by kernel_rfl) ?_
      simp only [List.take_succ_cons, List.take_zero, List.drop_succ_cons, List.drop_zero]
      iterate 3 still_step
      refine wpStill_nil ?_
      change wpList _ _ _ _ _ (w3.setRow wr.heap.size (cellsOf .u8 (mk 4 (mixK (colAt f c))))).drew
      generalize (w3.setRow wr.heap.size (cellsOf .u8 (mk 4 (mixK (colAt f c))))).drew = w4 at *
      have CD : Cells w4 wr.heap.size 0 4 (mixK (colAt f c)) := by
        have := BD4.cells (o := 0) (n := 4) (by omega)
        simpa using this
      refine wpList_copy_part rfl _ _ _ _ rfl 5 bytesUnder byteInfo w.heap.size n (16 - n) (16 - n) wr.heap.size 0 4 4 4 16 (colTo mixK f c) (mixK (colAt f c)) rfl rfl 25 BA4 (by omega) (Nat.min_eq_left hn12).symm CD ?_
      have BA5 := BA4.setRow .u8 (mk 16 (put (colTo mixK f c) n 4 (mixK (colAt f c))))
      rw [colTo_steps _ _ HN.out] at BA5
      rw [colTo_steps _ _ HN.out]
      have BZ5 := BZ4.otherRow (C := w.heap.size) (by omega) (cellsOf .u8 (mk 16 (colTo mixK f (c + 1))))
      have BW5 := below_setRow BW4 (g := w.heap.size) (by omega) (cellsOf .u8 (mk 16 (colTo mixK f (c + 1))))
      clear BD4 BA4 BZ4 BW4 CD HD3 HA3 HZ3 HW3
      generalize w4.setRow w.heap.size (cellsOf .u8 (mk 16 (colTo mixK f (c + 1)))) = w5 at *
      have HA5 := Lib.hid BA5
      have HZ5 := Lib.hid BZ5
      have HW5 := Lib.hid BW5
      clear BA5 BZ5 BW5
      go_wp2
      go_roundw
      case rel => exact ⟨c + 1, n + 4, by omega, by have := HN.out; omega, by go_num, HA5.out, HZ5.out, HW5.out⟩
      case measure => simp [intOf]; omega
    · obtain rfl : c = 4 := by omega
      obtain rfl : n = 16 := by omega
      clear ha hz hw hn
      go_wp2_with (first
        | (refine wpList_load_row rfl 25 _ rfl w.heap.size rfl 25 (cellsOf .u8 (mk 16 (colK mixK f))) (0, 0) _ (by rw [← colTo_end]; exact HA.out) keyUnder rfl (keySize _) ?_)
        | (refine wpList_store_row rfl 25 _ _ rfl (w.heap.size + 1) _ rfl rfl 25 (cellsOf .u8 (mk 16 zeroK)) HZ.out (keySize _) (by rw [cellsOf_size, cellsOf_size, mk_len, mk_len]) (cellsOf_one _ _) ?_))
      refine bodyPost_ret (results_cell_row rfl _ _ (w.heap.size + 1) 25 (cellsOf .u8 (mk 16 (colK mixK f))) (0, 0) _ rfl (HZ.out.setRow .u8 (mk 16 (colK mixK f))) keyUnder rfl (keySize _)) rfl ⟨rfl, below_setRow HW.out (by omega) _⟩

set_option maxRecDepth 100000 in
set_option maxHeartbeats 2000000 in
theorem unmCols_any (f : Nat → Nat) (hf : IsKey f) (w : World) :
    Calls Try.prog 56 #[.agg (cellsOf .u8 (mk 16 f)), .func (.func 63) #[] #[]] w fun e w' => e = .returned (.agg (cellsOf .u8 (mk 16 (colK unmK f)))) ∧ Below w.heap.size w w' := by
  go_enter Try.func56, Try.ntmps56
  go_wp2
  go_loopw [5] (fun v5 wr => ∃ c n : Nat, c ≤ 4 ∧ n = 4 * c ∧ v5 = .int .i64 n ∧ IntBlk wr w.heap.size .u8 25 (mk 16 (colTo unmK f c)) ∧ IntBlk wr (w.heap.size + 1) .u8 25 (mk 16 zeroK) ∧ Below w.heap.size w wr) (fun v5 _ => 16 - (intOf v5).toNat)
  case atStart => exact ⟨0, 0, by omega, rfl, rfl, by rw [colTo_start]; exact (IntBlk.new w .u8 25 (mk 16 f)).alloc _, blk_two w .u8 25 (mk 16 zeroK) _, below_two w _ _⟩
  case round =>
    obtain ⟨c, n, hc, hn, rfl, ha, hz, hw⟩ := hrel
    have hs : w.heap.size + 1 < wr.heap.size := hz.lt
    have HA := Lib.hid ha
    have HZ := Lib.hid hz
    have HW := Lib.hid hw
    have HN := Lib.hid hn
    by_cases hlt : n < 16
    · have hc4 : c < 4 := by omega
      have CA : Cells (wr.alloc (.cells (cellsOf .u8 (mk 4 zeroK)) 80)).drew w.heap.size n 4 (colAt f c) := by
        have := ((ha.alloc (.cells (cellsOf .u8 (mk 4 zeroK)) 80)).drew).cells (o := n) (n := 4) (by omega)
        rw [hn] at this ⊢
        rw [colTo_at] at this; exact this
      have BD := (IntBlk.new wr .u8 80 (mk 4 zeroK)).drew
      have BA := (ha.alloc (.cells (cellsOf .u8 (mk 4 zeroK)) 80)).drew
      have BZ := (hz.alloc (.cells (cellsOf .u8 (mk 4 zeroK)) 80)).drew
      have BW := (hw.alloc (by omega) (.cells (cellsOf .u8 (mk 4 zeroK)) 80)).drew
      have hn12 : 4 ≤ 16 - n := by omega
      have hcol := colAt_word hf hc4
      clear ha hz hw hn
      go_wp2
      have e1 : (n : Int) < 16 := by omega
      have e2 : (0 : Int) ≤ n := by omega
      have e3 : (n : Int) ≤ 16 := by omega
      have e4 : ¬ (16 = n) := by omega
      refine wp_region_still_tail 3 (by kernel_rfl) (by kernel_rfl) ?_
      simp only [List.take_succ_cons, List.take_zero, List.drop_succ_cons, List.drop_zero]
      iterate 3 still_step
      refine wpStill_nil ?_
      change wpList _ _ _ _ _ (wr.alloc (.cells (cellsOf .u8 (mk 4 zeroK)) 80)).drew
      generalize (wr.alloc (.cells (cellsOf .u8 (mk 4 zeroK)) 80)).drew = w1 at *
      refine wpList_copy_part rfl _ _ _ _ rfl 5 bytesUnder byteInfo wr.heap.size 0 4 4 w.heap.size n (16 - n) (16 - n) 4 4 zeroK (colAt f c) rfl rfl 80 BD (by omega) (Nat.min_eq_right hn12).symm CA ?_
      have BD2 := BD.setRow .u8 (mk 4 (put zeroK 0 4 (colAt f c)))
      rw [put_all] at BD2 ⊢
      have BA2 := BA.otherRow (C := wr.heap.size) (by omega) (cellsOf .u8 (mk 4 (colAt f c)))
      have BZ2 := BZ.otherRow (C := wr.heap.size) (by omega) (cellsOf .u8 (mk 4 (colAt f c)))
      have BW2 := below_setRow BW (g := wr.heap.size) (by omega) (cellsOf .u8 (mk 4 (colAt f c)))
      generalize w1.setRow wr.heap.size (cellsOf .u8 (mk 4 (colAt f c))) = w2 at *
      have HD2 := Lib.hid BD2
      clear CA BD BA BZ BW BD2 HA HZ HW
      go_wp2_with (first
        | (refine wpList_load_row rfl 80 _ rfl wr.heap.size rfl 80 (cellsOf .u8 (mk 4 (colAt f c))) (0, 0) _ HD2.out wordUnder rfl (wordSize _) ?_)
        | fail)
      refine (Unmix_any (colAt f c) hcol _).mono ?_
      rintro e w3 ⟨rfl, hb3⟩
      have HD3 := Lib.hid (HD2.out.below hb3 HD2.out.lt)
      have HA3 := Lib.hid (BA2.below hb3 BA2.lt)
      have HZ3 := Lib.hid (BZ2.below hb3 BZ2.lt)
      have HW3 := Lib.hid (BW2.trans (hb3.mono BW2.size))
      clear hb3 HD2 BA2 BZ2 BW2
      go_wp2_with (first
        | (refine store_row_on rfl 80 _ _ rfl rfl wr.heap.size (cellsOf .u8 (mk 4 (unmK (colAt f c)))) rfl rfl 80 (cellsOf .u8 (mk 4 (colAt f c))) HD3.out (wordSize _) (by rw [cellsOf_size, cellsOf_size, mk_len, mk_len]) (cellsOf_one _ _) ?_)
        | fail)
      have BD4 := (HD3.out.setRow .u8 (mk 4 (unmK (colAt f c)))).drew
      have BA4 := (HA3.out.otherRow (C := wr.heap.size) (by omega) (cellsOf .u8 (mk 4 (unmK (colAt f c))))).drew
      have BZ4 := (HZ3.out.otherRow (C := wr.heap.size) (by omega) (cellsOf .u8 (mk 4 (unmK (colAt f c))))).drew
      have BW4 := (below_setRow HW3.out (g := wr.heap.size) (by omega) (cellsOf .u8 (mk 4 (unmK (colAt f c))))).drew
      refine wp_region_still_tail 3 (by kernel_rfl) (by kernel_rfl) ?_
      simp only [List.take_succ_cons, List.take_zero, List.drop_succ_cons, List.drop_zero]
      iterate 3 still_step
      refine wpStill_nil ?_
      change wpList _ _ _ _ _ (w3.setRow wr.heap.size (cellsOf .u8 (mk 4 (unmK (colAt f c))))).drew
      generalize (w3.setRow wr.heap.size (cellsOf .u8 (mk 4 (unmK (colAt f c))))).drew = w4 at *
      have CD : Cells w4 wr.heap.size 0 4 (unmK (colAt f c)) := by
        have := BD4.cells (o := 0) (n := 4) (by omega)
        simpa using this
      refine wpList_copy_part rfl _ _ _ _ rfl 5 bytesUnder byteInfo w.heap.size n (16 - n) (16 - n) wr.heap.size 0 4 4 4 16 (colTo unmK f c) (unmK (colAt f c)) rfl rfl 25 BA4 (by omega) (Nat.min_eq_left hn12).symm CD ?_
      have BA5 := BA4.setRow .u8 (mk 16 (put (colTo unmK f c) n 4 (unmK (colAt f c))))
      rw [colTo_steps _ _ HN.out] at BA5
      rw [colTo_steps _ _ HN.out]
      have BZ5 := BZ4.otherRow (C := w.heap.size) (by omega) (cellsOf .u8 (mk 16 (colTo unmK f (c + 1))))
      have BW5 := below_setRow BW4 (g := w.heap.size) (by omega) (cellsOf .u8 (mk 16 (colTo unmK f (c + 1))))
      clear BD4 BA4 BZ4 BW4 CD HD3 HA3 HZ3 HW3
      generalize w4.setRow w.heap.size (cellsOf .u8 (mk 16 (colTo unmK f (c + 1)))) = w5 at *
      have HA5 := Lib.hid BA5
      have HZ5 := Lib.hid BZ5
      have HW5 := Lib.hid BW5
      clear BA5 BZ5 BW5
      go_wp2
      go_roundw
      case rel => exact ⟨c + 1, n + 4, by omega, by have := HN.out; omega, by go_num, HA5.out, HZ5.out, HW5.out⟩
      case measure => simp [intOf]; omega
    · obtain rfl : c = 4 := by omega
      obtain rfl : n = 16 := by omega
      clear ha hz hw hn
      go_wp2_with (first
        | (refine wpList_load_row rfl 25 _ rfl w.heap.size rfl 25 (cellsOf .u8 (mk 16 (colK unmK f))) (0, 0) _ (by rw [← colTo_end]; exact HA.out) keyUnder rfl (keySize _) ?_)
        | (refine wpList_store_row rfl 25 _ _ rfl (w.heap.size + 1) _ rfl rfl 25 (cellsOf .u8 (mk 16 zeroK)) HZ.out (keySize _) (by rw [cellsOf_size, cellsOf_size, mk_len, mk_len]) (cellsOf_one _ _) ?_))
      refine bodyPost_ret (results_cell_row rfl _ _ (w.heap.size + 1) 25 (cellsOf .u8 (mk 16 (colK unmK f))) (0, 0) _ rfl (HZ.out.setRow .u8 (mk 16 (colK unmK f))) keyUnder rfl (keySize _)) rfl ⟨rfl, below_setRow HW.out (by omega) _⟩

end Go.Proofs.Ytklnnmlegagfoaa

/- The contracts of package cipher's add: each answers the exclusive or of its two arguments, and writes nothing that was there. Condition: the arguments' bytes are bytes. -/
namespace Go.Proofs.Ytklnnmlegagfoaa
open Go.ChangeShapes Go.WideShapes Go.ChangeAt Go.RowKit

/-- The first k bytes are summed. -/
def xsTo (f g : Nat → Nat) (k : Nat) : Nat → Nat := fun j => if j < k then xorK f g j else f j
theorem xsTo_start (n : Nat) (f g : Nat → Nat) : mk n (xsTo f g 0) = mk n f := mk_ext fun j _ => by unfold xsTo; rw [if_neg (by omega)]
theorem xsTo_end (n : Nat) (f g : Nat → Nat) : mk n (xsTo f g n) = mk n (xorK f g) := mk_ext fun j hj => by unfold xsTo; rw [if_pos hj]
theorem xsTo_at (f g : Nat → Nat) (k : Nat) : xsTo f g k k = f k := by unfold xsTo; rw [if_neg (by omega)]
theorem xsTo_step (n : Nat) (f g : Nat → Nat) (k : Nat) : (mk n (xsTo f g k)).set k (xorK f g k : Nat) = mk n (xsTo f g (k + 1)) := by
  refine mk_set_is rfl fun j _ => ?_
  unfold xsTo
  by_cases e : j = k
  · subst e; rw [if_pos rfl, if_pos (by omega)]
  · rw [if_neg e]
    by_cases l : j < k
    · rw [if_pos l, if_pos (by omega)]
    · rw [if_neg l, if_neg (by omega)]

set_option maxRecDepth 100000 in
set_option maxHeartbeats 1000000 in
theorem add_any (f g : Nat → Nat) (hf : IsWord f) (hg : IsWord g) (w : World) :
    Calls Try.prog 71 #[.agg (cellsOf .u8 (mk 4 f)), .agg (cellsOf .u8 (mk 4 g))] w fun e w' => e = .returned (.agg (cellsOf .u8 (mk 4 (xorK f g)))) ∧ Below w.heap.size w w' := by
  go_enter Try.func71, Try.ntmps71
  go_wp2
  go_loopw [6] (fun v6 wr => ∃ k : Nat, k ≤ 4 ∧ v6 = .int .i64 k ∧ IntBlk wr w.heap.size .u8 80 (mk 4 (xsTo f g k)) ∧ IntBlk wr (w.heap.size + 1) .u8 80 (mk 4 g) ∧ IntBlk wr (w.heap.size + 1 + 1) .u8 80 (mk 4 zeroK) ∧ Below w.heap.size w wr) (fun v6 _ => 4 - (intOf v6).toNat)
  case atStart => exact ⟨0, by omega, rfl, by rw [xsTo_start]; exact blk_first w .u8 _ (mk 4 f) _ _, blk_second w .u8 _ (mk 4 g) _ _, blk_third w .u8 _ (mk 4 zeroK) _ _, below_three w _ _ _⟩
  case round =>
    obtain ⟨k, hk, rfl, ha, hb, hz, hw⟩ := hrel
    have HA := Lib.hid ha
    have HB := Lib.hid hb
    have HZ := Lib.hid hz
    have HW := Lib.hid hw
    by_cases hlt : k < 4
    · have c1 := ha.cell (i := k) (by rw [mk_len]; exact hlt)
      have c2 := hb.cell (i := k) (by rw [mk_len]; exact hlt)
      rw [mk_get hlt] at c1 c2
      rw [xsTo_at] at c1
      have f1 := ha.free k
      have f2 := hb.free k
      have hx := hf k hlt
      have hy := hg k hlt
      have HV := Lib.hid (xorK_bits (f := f) (g := g) hx hy)
      clear ha hb hz hw
      go_wp2
      have e1 : (k : Int) < 4 := by omega
      have e2 : (0 : Int) ≤ k := by omega
      refine wp_region_still_tail 8 (by kernel_rfl) (by kernel_rfl) ?_
      simp only [List.take_succ_cons, List.take_zero, List.drop_succ_cons, List.drop_zero]
      change wpStill _ _ wr.drew (fun a' => wpList _ _ _ _ a' wr.drew) _ _
      iterate 8 still_step
      refine wpStill_nil ?_
      go_wp2
      go_roundw
      case rel => exact ⟨k + 1, by omega, by go_num, by rw [HV.out, ← xsTo_step]; exact (HA.out.set k _).drew, (HB.out.other (by show w.heap.size ≠ w.heap.size + 1; omega) _).drew, (HZ.out.other (by show w.heap.size ≠ w.heap.size + 1 + 1; omega) _).drew, (HW.out.setCell (by show w.heap.size ≤ w.heap.size; omega) _).drew⟩
      case measure => simp [intOf]; omega
    · obtain rfl : k = 4 := by omega
      clear ha hb hz hw
      go_wp2_with (first
        | (refine wpList_load_row rfl 80 _ rfl w.heap.size rfl 80 (cellsOf .u8 (mk 4 (xorK f g))) (0, 0) _ (by rw [← xsTo_end]; exact HA.out) wordUnder rfl (wordSize _) ?_)
        | (refine wpList_store_row rfl 80 _ _ rfl (w.heap.size + 1 + 1) _ rfl rfl 80 (cellsOf .u8 (mk 4 zeroK)) HZ.out (wordSize _) (by rw [cellsOf_size, cellsOf_size, mk_len, mk_len]) (cellsOf_one _ _) ?_))
      refine bodyPost_ret (results_cell_row rfl _ _ (w.heap.size + 1 + 1) 80 (cellsOf .u8 (mk 4 (xorK f g))) (0, 0) _ rfl (HZ.out.setRow .u8 (mk 4 (xorK f g))) wordUnder rfl (wordSize _)) rfl ⟨rfl, below_setRow HW.out (by omega) _⟩
end Go.Proofs.Ytklnnmlegagfoaa

/- Plain mathematics of mixed columns: mixing and unmixing undo one another, and both keep sums. Condition: the columns' bytes are bytes. -/
namespace Go.Proofs.Ytklnnmlegagfoaa
open Go

theorem mul_nought (x : Nat) : mul x 0 = 0 := mulS_zero 8 x 0
theorem mul_one_eq (x : Nat) : mul x 1 = x := mul_one'
theorem mxK_at (f g : Nat → Nat) (k : Nat) : mxK f g k = ((mul (f 0) (g ((0 + 4 - k) % 4)) ^^^ mul (f 1) (g ((1 + 4 - k) % 4))) ^^^ mul (f 2) (g ((2 + 4 - k) % 4))) ^^^ mul (f 3) (g ((3 + 4 - k) % 4)) := by
  unfold mxK mxS mxS mxS mxS mxS
  rw [Nat.zero_xor]
/-- Mixed twice: the factor of byte m in byte k. -/
def fac2 (g h : Nat → Nat) (k m : Nat) : Nat :=
  ((mul (g ((m + 4 - 0) % 4)) (h ((0 + 4 - k) % 4)) ^^^ mul (g ((m + 4 - 1) % 4)) (h ((1 + 4 - k) % 4))) ^^^ mul (g ((m + 4 - 2) % 4)) (h ((2 + 4 - k) % 4))) ^^^ mul (g ((m + 4 - 3) % 4)) (h ((3 + 4 - k) % 4))
theorem mul_sum4 {a b c d : Nat} (u : Nat) (ha : a < 256) (hb : b < 256) (hc : c < 256) (hd : d < 256) :
    mul (((a ^^^ b) ^^^ c) ^^^ d) u = ((mul a u ^^^ mul b u) ^^^ mul c u) ^^^ mul d u := by
  rw [mul_left u (xor_lt (xor_lt ha hb) hc) hd, mul_left u (xor_lt ha hb) hc, mul_left u ha hb]
theorem mx_twice {f g h : Nat → Nat} (hf : IsWord f) (hg : IsWord g) (hh : IsWord h) (k : Nat) :
    mxK (mxK f g) h k = ((mul (f 0) (fac2 g h k 0) ^^^ mul (f 1) (fac2 g h k 1)) ^^^ mul (f 2) (fac2 g h k 2)) ^^^ mul (f 3) (fac2 g h k 3) := by
  rw [mxK_at (mxK f g) h k]
  simp only [mxK_at f g]
  have g' : ∀ i, g (i % 4) < 256 := fun i => hg _ (by omega)
  have h' : ∀ i, h (i % 4) < 256 := fun i => hh _ (by omega)
  have b0 := hf 0 (by omega)
  have b1 := hf 1 (by omega)
  have b2 := hf 2 (by omega)
  have b3 := hf 3 (by omega)
  have one : ∀ n u, u < 256 → mul (((mul (f 0) (g ((0 + 4 - n) % 4)) ^^^ mul (f 1) (g ((1 + 4 - n) % 4))) ^^^ mul (f 2) (g ((2 + 4 - n) % 4))) ^^^ mul (f 3) (g ((3 + 4 - n) % 4))) u
      = ((mul (f 0) (mul (g ((0 + 4 - n) % 4)) u) ^^^ mul (f 1) (mul (g ((1 + 4 - n) % 4)) u)) ^^^ mul (f 2) (mul (g ((2 + 4 - n) % 4)) u)) ^^^ mul (f 3) (mul (g ((3 + 4 - n) % 4)) u) := fun n u hu => by
    rw [mul_sum4 u (mul_lt b0) (mul_lt b1) (mul_lt b2) (mul_lt b3), mul_assoc' b0 (g' _) hu, mul_assoc' b1 (g' _) hu, mul_assoc' b2 (g' _) hu, mul_assoc' b3 (g' _) hu]
  rw [one 0 _ (h' _), one 1 _ (h' _), one 2 _ (h' _), one 3 _ (h' _)]
  unfold fac2
  simp only [mul_right]
  ac_rfl
theorem fac_mu : ∀ k m : Fin 4, fac2 facM facU k.val m.val = if m.val = k.val then 1 else 0 := by decide +kernel
theorem fac_um : ∀ k m : Fin 4, fac2 facU facM k.val m.val = if m.val = k.val then 1 else 0 := by decide +kernel
theorem pick4 (f : Nat → Nat) {k : Nat} (hk : k < 4) : ((mul (f 0) (if 0 = k then 1 else 0) ^^^ mul (f 1) (if 1 = k then 1 else 0)) ^^^ mul (f 2) (if 2 = k then 1 else 0)) ^^^ mul (f 3) (if 3 = k then 1 else 0) = f k := by
  rcases (show k = 0 ∨ k = 1 ∨ k = 2 ∨ k = 3 by omega) with rfl | rfl | rfl | rfl <;> simp [mul_nought, mul_one_eq]
theorem unm_mix {f : Nat → Nat} (hf : IsWord f) {k : Nat} (hk : k < 4) : unmK (mixK f) k = f k := by
  unfold unmK mixK
  rw [mx_twice hf facM_word facU_word k]
  have e : ∀ m, m < 4 → fac2 facM facU k m = if m = k then 1 else 0 := fun m hm => fac_mu ⟨k, hk⟩ ⟨m, hm⟩
  rw [e 0 (by omega), e 1 (by omega), e 2 (by omega), e 3 (by omega)]; exact pick4 f hk
theorem mix_unm {f : Nat → Nat} (hf : IsWord f) {k : Nat} (hk : k < 4) : mixK (unmK f) k = f k := by
  unfold unmK mixK
  rw [mx_twice hf facU_word facM_word k]
  have e : ∀ m, m < 4 → fac2 facU facM k m = if m = k then 1 else 0 := fun m hm => fac_um ⟨k, hk⟩ ⟨m, hm⟩
  rw [e 0 (by omega), e 1 (by omega), e 2 (by omega), e 3 (by omega)]; exact pick4 f hk
theorem mx_sum {f f' : Nat → Nat} (g : Nat → Nat) (hf : IsWord f) (hf' : IsWord f') (k : Nat) : mxK (fun i => f i ^^^ f' i) g k = mxK f g k ^^^ mxK f' g k := by
  simp only [mxK_at]
  rw [mul_left _ (hf 0 (by omega)) (hf' 0 (by omega)), mul_left _ (hf 1 (by omega)) (hf' 1 (by omega)), mul_left _ (hf 2 (by omega)) (hf' 2 (by omega)), mul_left _ (hf 3 (by omega)) (hf' 3 (by omega))]
  ac_rfl
end Go.Proofs.Ytklnnmlegagfoaa

/- Plain mathematics of the cipher's rounds: to decrypt undoes to encrypt and the other way round, with any round keys. Condition: all bytes are bytes. -/
namespace Go.Proofs.Ytklnnmlegagfoaa
open Go

def subK (f : Nat → Nat) : Nat → Nat := fun i => subN (f i)
def bakK (f : Nat → Nat) : Nat → Nat := fun i => backN (f i)
theorem subK_key {f : Nat → Nat} (h : IsKey f) : IsKey (subK f) := fun j hj => subN_lt (h j hj)
theorem bakK_key {f : Nat → Nat} (h : IsKey f) : IsKey (bakK f) := fun j hj => backN_lt (h j hj)
/-- A round there: what is done ahead of the sum. -/
def inE (n i : Nat) (s : Nat → Nat) : Nat → Nat := if i = 0 then s else if i + 1 < n then colK mixK (shK (subK s)) else shK (subK s)
def rndE (R : Nat → Nat → Nat) (n i : Nat) (s : Nat → Nat) : Nat → Nat := xorK (inE n i s) (R i)
/-- A round back: what is done behind the sum. -/
def inD (n i : Nat) (t : Nat → Nat) : Nat → Nat := if i = 0 then t else if i + 1 < n then bakK (unK (colK unmK t)) else bakK (unK t)
def rndD (R : Nat → Nat → Nat) (n i : Nat) (s : Nat → Nat) : Nat → Nat := inD n i (xorK s (R i))
def encTo (R : Nat → Nat → Nat) (n : Nat) (f : Nat → Nat) : Nat → Nat → Nat
  | 0 => f
  | i + 1 => rndE R n i (encTo R n f i)
def decTo (R : Nat → Nat → Nat) (n : Nat) (f : Nat → Nat) : Nat → Nat → Nat
  | 0 => f
  | d + 1 => rndD R n (n - 1 - d) (decTo R n f d)
def encK (R : Nat → Nat → Nat) (n : Nat) (f : Nat → Nat) : Nat → Nat := encTo R n f n
def decK (R : Nat → Nat → Nat) (n : Nat) (f : Nat → Nat) : Nat → Nat := decTo R n f n
theorem encTo_step (R : Nat → Nat → Nat) (n : Nat) (f : Nat → Nat) (i : Nat) : encTo R n f (i + 1) = xorK (inE n i (encTo R n f i)) (R i) := rfl
theorem decTo_step (R : Nat → Nat → Nat) (n : Nat) (f : Nat → Nat) (d : Nat) : decTo R n f (d + 1) = inD n (n - 1 - d) (xorK (decTo R n f d) (R (n - 1 - d))) := rfl
theorem encK_is (R : Nat → Nat → Nat) (n : Nat) (f : Nat → Nat) : encK R n f = encTo R n f n := rfl
theorem decK_is (R : Nat → Nat → Nat) (n : Nat) (f : Nat → Nat) : decK R n f = decTo R n f n := rfl
theorem encTo_zero (R : Nat → Nat → Nat) (n : Nat) (f : Nat → Nat) : encTo R n f 0 = f := rfl
theorem decTo_zero (R : Nat → Nat → Nat) (n : Nat) (f : Nat → Nat) : decTo R n f 0 = f := rfl
theorem inE_first (n : Nat) (s : Nat → Nat) : inE n 0 s = s := rfl
theorem inE_zero {n i : Nat} (s : Nat → Nat) (h0 : i = 0) : inE n i s = s := by unfold inE; rw [if_pos h0]
theorem inD_zero {n i : Nat} (s : Nat → Nat) (h0 : i = 0) : inD n i s = s := by unfold inD; rw [if_pos h0]
theorem inE_mid {n i : Nat} (s : Nat → Nat) (h0 : i ≠ 0) (h1 : i + 1 < n) : inE n i s = colK mixK (shK (subK s)) := by unfold inE; rw [if_neg h0, if_pos h1]
theorem inE_last {n i : Nat} (s : Nat → Nat) (h0 : i ≠ 0) (h1 : ¬ i + 1 < n) : inE n i s = shK (subK s) := by unfold inE; rw [if_neg h0, if_neg h1]
theorem inD_first (n : Nat) (s : Nat → Nat) : inD n 0 s = s := rfl
theorem inD_mid {n i : Nat} (s : Nat → Nat) (h0 : i ≠ 0) (h1 : i + 1 < n) : inD n i s = bakK (unK (colK unmK s)) := by unfold inD; rw [if_neg h0, if_pos h1]
theorem inD_last {n i : Nat} (s : Nat → Nat) (h0 : i ≠ 0) (h1 : ¬ i + 1 < n) : inD n i s = bakK (unK s) := by unfold inD; rw [if_neg h0, if_neg h1]
theorem inE_key {s : Nat → Nat} (n i : Nat) (h : IsKey s) : IsKey (inE n i s) := by
  unfold inE; split
  · exact h
  · split
    · exact mixCol_key (shK_key (subK_key h))
    · exact shK_key (subK_key h)
theorem inD_key {s : Nat → Nat} (n i : Nat) (h : IsKey s) : IsKey (inD n i s) := by
  unfold inD; split
  · exact h
  · split
    · exact bakK_key (unK_key (unmCol_key h))
    · exact bakK_key (unK_key h)
theorem encTo_key {R : Nat → Nat → Nat} {n : Nat} {f : Nat → Nat} (hR : ∀ i, i < n → IsKey (R i)) (hf : IsKey f) : ∀ i, i ≤ n → IsKey (encTo R n f i)
  | 0, _ => hf
  | i + 1, h => xorK_key (inE_key n i (encTo_key hR hf i (by omega))) (hR i (by omega))
theorem decTo_key {R : Nat → Nat → Nat} {n : Nat} {f : Nat → Nat} (hR : ∀ i, i < n → IsKey (R i)) (hf : IsKey f) : ∀ d, d ≤ n → IsKey (decTo R n f d)
  | 0, _ => hf
  | d + 1, h => inD_key n _ (xorK_key (decTo_key hR hf d (by omega)) (hR _ (by omega)))

/-- The same key. -/
def EqK (f g : Nat → Nat) : Prop := ∀ j, j < 16 → f j = g j
theorem EqK.mk {f g : Nat → Nat} (h : EqK f g) : mk 16 f = mk 16 g := mk_ext h
theorem EqK.refl (f : Nat → Nat) : EqK f f := fun _ _ => rfl
theorem EqK.trans {f g h : Nat → Nat} (a : EqK f g) (b : EqK g h) : EqK f h := fun j hj => (a j hj).trans (b j hj)
theorem eq_sub {f g : Nat → Nat} (h : EqK f g) : EqK (subK f) (subK g) := fun j hj => by unfold subK; rw [h j hj]
theorem eq_bak {f g : Nat → Nat} (h : EqK f g) : EqK (bakK f) (bakK g) := fun j hj => by unfold bakK; rw [h j hj]
theorem eq_sh {f g : Nat → Nat} (h : EqK f g) : EqK (shK f) (shK g) := fun j _ => h _ (fromN_lt j)
theorem eq_un {f g : Nat → Nat} (h : EqK f g) : EqK (unK f) (unK g) := fun j _ => h _ (backP_lt j)
theorem eq_xor {f g a : Nat → Nat} (h : EqK f g) : EqK (xorK f a) (xorK g a) := fun j hj => by unfold xorK; rw [h j hj]
theorem mx_eq {f g : Nat → Nat} (a : Nat → Nat) (h : ∀ i, i < 4 → f i = g i) (k : Nat) : mxK f a k = mxK g a k := by
  simp only [mxK_at, h 0 (by omega), h 1 (by omega), h 2 (by omega), h 3 (by omega)]
theorem eq_mix {f g : Nat → Nat} (h : EqK f g) : EqK (colK mixK f) (colK mixK g) := fun j hj => mx_eq facM (fun i hi => h _ (by omega)) _
theorem eq_unm {f g : Nat → Nat} (h : EqK f g) : EqK (colK unmK f) (colK unmK g) := fun j hj => mx_eq facU (fun i hi => h _ (by omega)) _
theorem eq_inE {f g : Nat → Nat} (n i : Nat) (h : EqK f g) : EqK (inE n i f) (inE n i g) := by
  unfold inE; split
  · exact h
  · split
    · exact eq_mix (eq_sh (eq_sub h))
    · exact eq_sh (eq_sub h)
theorem eq_inD {f g : Nat → Nat} (n i : Nat) (h : EqK f g) : EqK (inD n i f) (inD n i g) := by
  unfold inD; split
  · exact h
  · split
    · exact eq_bak (eq_un (eq_unm h))
    · exact eq_bak (eq_un h)
theorem xor_twice (f a : Nat → Nat) : EqK (xorK (xorK f a) a) f := fun j _ => by
  show (f j ^^^ a j) ^^^ a j = f j
  rw [Nat.xor_assoc, Nat.xor_self, Nat.xor_zero]
theorem col_parts (m : (Nat → Nat) → Nat → Nat) (f : Nat → Nat) (c i : Nat) (hi : i < 4) : colAt (colK m f) c i = m (colAt f c) i := by
  unfold colAt colK
  rw [show (4 * c + i) / 4 = c by omega, show (4 * c + i) % 4 = i by omega]; rfl
theorem un_col {f : Nat → Nat} (h : IsKey f) : EqK (colK unmK (colK mixK f)) f := fun j hj => by
  show unmK (colAt (colK mixK f) (j / 4)) (j % 4) = f j
  have : unmK (colAt (colK mixK f) (j / 4)) (j % 4) = unmK (mixK (colAt f (j / 4))) (j % 4) := mx_eq facU (fun i hi => col_parts mixK f _ i hi) _
  rw [this, unm_mix (colAt_word h (by omega)) (by omega)]
  unfold colAt; congr 1; omega
theorem col_un {f : Nat → Nat} (h : IsKey f) : EqK (colK mixK (colK unmK f)) f := fun j hj => by
  show mixK (colAt (colK unmK f) (j / 4)) (j % 4) = f j
  have : mixK (colAt (colK unmK f) (j / 4)) (j % 4) = mixK (unmK (colAt f (j / 4))) (j % 4) := mx_eq facM (fun i hi => col_parts unmK f _ i hi) _
  rw [this, mix_unm (colAt_word h (by omega)) (by omega)]
  unfold colAt; congr 1; omega
theorem un_sh (f : Nat → Nat) : EqK (unK (shK f)) f := fun j hj => by show f (fromN (backP j)) = f j; rw [from_back hj]
theorem sh_un (f : Nat → Nat) : EqK (shK (unK f)) f := fun j hj => by show f (backP (fromN j)) = f j; rw [back_from hj]
theorem bak_sub {f : Nat → Nat} (h : IsKey f) : EqK (bakK (subK f)) f := fun j hj => back_sub (h j hj)
theorem sub_bak {f : Nat → Nat} (h : IsKey f) : EqK (subK (bakK f)) f := fun j hj => sub_back (h j hj)
theorem inD_inE {s : Nat → Nat} (n i : Nat) (h : IsKey s) : EqK (inD n i (inE n i s)) s := by
  unfold inD inE
  by_cases h0 : i = 0
  · rw [if_pos h0, if_pos h0]; exact EqK.refl s
  · rw [if_neg h0, if_neg h0]
    by_cases h1 : i + 1 < n
    · rw [if_pos h1, if_pos h1]
      exact (eq_bak ((eq_un (un_col (shK_key (subK_key h)))).trans (un_sh _))).trans (bak_sub h)
    · rw [if_neg h1, if_neg h1]
      exact (eq_bak (un_sh _)).trans (bak_sub h)
theorem inE_inD {s : Nat → Nat} (n i : Nat) (h : IsKey s) : EqK (inE n i (inD n i s)) s := by
  unfold inD inE
  by_cases h0 : i = 0
  · rw [if_pos h0, if_pos h0]; exact EqK.refl s
  · rw [if_neg h0, if_neg h0]
    by_cases h1 : i + 1 < n
    · rw [if_pos h1, if_pos h1]
      exact (eq_mix ((eq_sh (sub_bak (unK_key (unmCol_key h)))).trans (sh_un _))).trans (col_un h)
    · rw [if_neg h1, if_neg h1]
      exact (eq_sh (sub_bak (unK_key h))).trans (sh_un _)
theorem rnd_back {s : Nat → Nat} (R : Nat → Nat → Nat) (n i : Nat) (h : IsKey s) : EqK (rndD R n i (rndE R n i s)) s :=
  (eq_inD n i (xor_twice _ _)).trans (inD_inE n i h)
theorem rnd_there {s : Nat → Nat} (R : Nat → Nat → Nat) (n i : Nat) (h : IsKey s) (hR : IsKey (R i)) : EqK (rndE R n i (rndD R n i s)) s :=
  (eq_xor (inE_inD n i (xorK_key h hR))).trans (xor_twice _ _)
theorem dec_from {R : Nat → Nat → Nat} {n : Nat} {f : Nat → Nat} (hR : ∀ i, i < n → IsKey (R i)) (hf : IsKey f) : ∀ d, d ≤ n → EqK (decTo R n (encK R n f) d) (encTo R n f (n - d))
  | 0, _ => EqK.refl _
  | d + 1, h => by
    have ih := dec_from hR hf d (by omega)
    have e : encTo R n f (n - d) = rndE R n (n - 1 - d) (encTo R n f (n - 1 - d)) := by
      rw [show n - d = (n - 1 - d) + 1 by omega]; rfl
    rw [e] at ih
    have e2 : n - (d + 1) = n - 1 - d := by omega
    rw [e2]
    exact (eq_inD n _ (eq_xor ih)).trans (rnd_back R n (n - 1 - d) (encTo_key hR hf _ (by omega)))
theorem enc_from {R : Nat → Nat → Nat} {n : Nat} {f : Nat → Nat} (hR : ∀ i, i < n → IsKey (R i)) (hf : IsKey f) : ∀ i, i ≤ n → EqK (encTo R n (decK R n f) i) (decTo R n f (n - i))
  | 0, _ => EqK.refl _
  | i + 1, h => by
    have ih := enc_from hR hf i (by omega)
    have e : decTo R n f (n - i) = rndD R n i (decTo R n f (n - (i + 1))) := by
      rw [show n - i = (n - (i + 1)) + 1 by omega]
      show rndD R n (n - 1 - (n - (i + 1))) _ = _
      rw [show n - 1 - (n - (i + 1)) = i by omega]
    rw [e] at ih
    exact (eq_xor (eq_inE n i ih)).trans (rnd_there R n i (decTo_key hR hf _ (by omega)) (hR i (by omega)))
theorem dec_enc {R : Nat → Nat → Nat} {n : Nat} {f : Nat → Nat} (hR : ∀ i, i < n → IsKey (R i)) (hf : IsKey f) : mk 16 (decK R n (encK R n f)) = mk 16 f := by
  have := dec_from hR hf n (Nat.le_refl n)
  rw [Nat.sub_self] at this; exact this.mk
theorem enc_dec {R : Nat → Nat → Nat} {n : Nat} {f : Nat → Nat} (hR : ∀ i, i < n → IsKey (R i)) (hf : IsKey f) : mk 16 (encK R n (decK R n f)) = mk 16 f := by
  have := enc_from hR hf n (Nat.le_refl n)
  rw [Nat.sub_self] at this; exact this.mk
end Go.Proofs.Ytklnnmlegagfoaa

/- The contracts of package cipher's Encrypt and Decrypt: each answers the key that the plain functions say, with any round keys, and writes nothing that was there. Conditions: all bytes are bytes; there are fewer than 2^32 round keys. -/
namespace Go.Proofs.Ytklnnmlegagfoaa
open Go.ChangeShapes Go.WideShapes Go.ChangeAt Go.RowKit

/-- n round keys lie behind a pointer. -/
def KeysAt (w : World) (p : Option Addr) (n : Nat) (R : Nat → Nat → Nat) : Prop := n = 0 ∨ ∃ B o, p = some ⟨B, o, none⟩ ∧ B < w.heap.size ∧ ∀ i, i < n → Cells w B (o + i * 16) 16 (R i)
theorem KeysAt.below {w w' : World} {p : Option Addr} {n : Nat} {R : Nat → Nat → Nat} (h : KeysAt w p n R) (hb : Below w.heap.size w w') : KeysAt w' p n R := by
  rcases h with h | ⟨B, o, hp, hB, hc⟩
  · exact .inl h
  · exact .inr ⟨B, o, hp, Nat.lt_of_lt_of_le hB hb.size, fun i hi => (hc i hi).below hb hB⟩
theorem keyInfo : (Try.prog.info? 25).map (·.size) = some 16 := by kernel_rfl
theorem subAll_k (f : Nat → Nat) (hf : IsKey f) (w : World) : Calls Try.prog 55 #[.agg (cellsOf .u8 (mk 16 f))] w fun e w' => e = .returned (.agg (cellsOf .u8 (mk 16 (subK f)))) ∧ Below w.heap.size w w' := SubAll_any f hf w
theorem backAll_k (f : Nat → Nat) (hf : IsKey f) (w : World) : Calls Try.prog 64 #[.agg (cellsOf .u8 (mk 16 f))] w fun e w' => e = .returned (.agg (cellsOf .u8 (mk 16 (bakK f)))) ∧ Below w.heap.size w w' := BackAll_any f hf w
attribute [local irreducible] inE inD encTo decTo xorK shK unK subK bakK colK mixK unmK

set_option maxRecDepth 100000 in
set_option maxHeartbeats 4000000 in
theorem Encrypt_any (p : Option Addr) (n cap : Nat) (R : Nat → Nat → Nat) (f : Nat → Nat) (hR : ∀ i, i < n → IsKey (R i)) (hf : IsKey f) (hn : n < 4294967296) (w : World) (hp : KeysAt w p n R) :
    Calls Try.prog 46 #[.slice p n cap, .agg (cellsOf .u8 (mk 16 f))] w fun e w' => e = .returned (.agg (cellsOf .u8 (mk 16 (encK R n f)))) ∧ Below w.heap.size w w' := by
  have q1 : IntKind.i64.wrap ((n : Int) - 1) = (n : Int) - 1 := IntWalk.i64_in _ (by omega)
  rw [encK_is]
  go_enter Try.func46, Try.ntmps46
  go_wp2
  go_loopw [13] (fun v13 wr => ∃ i : Nat, i ≤ n ∧ v13 = .int .i64 i ∧ IntBlk wr w.heap.size .u8 25 (mk 16 (encTo R n f i)) ∧ IntBlk wr (w.heap.size + 1) .u8 25 (mk 16 zeroK) ∧ Below w.heap.size w wr) (fun v13 _ => n - (intOf v13).toNat)
  case atStart => exact ⟨0, by omega, rfl, by rw [encTo_zero]; exact (IntBlk.new w .u8 25 (mk 16 f)).alloc _, blk_two w .u8 25 (mk 16 zeroK) _, below_two w _ _⟩
  case round =>
    obtain ⟨i, hi, rfl, ha, hz, hw⟩ := hrel
    have hs : w.heap.size + 1 < wr.heap.size := hz.lt
    by_cases hlt : i < n
    · rcases hp with hp | ⟨B, o, rfl, hB, hc⟩
      · omega
      have hk := encTo_key hR hf i (by omega)
      have hr := hR i hlt
      have CR := Lib.hid ((hc i hlt).below hw hB)
      have HS := Lib.hid (encTo_step R n f i)
      have A1 := Lib.hid ((ha.alloc (.cells (cellsOf .u8 (mk 16 zeroK)) 25)).otherRow (C := wr.heap.size) (by omega) (cellsOf .u8 (mk 16 (R i))))
      have Z1 := Lib.hid ((hz.alloc (.cells (cellsOf .u8 (mk 16 zeroK)) 25)).otherRow (C := wr.heap.size) (by omega) (cellsOf .u8 (mk 16 (R i))))
      have T1 := Lib.hid ((IntBlk.new wr .u8 25 (mk 16 zeroK)).setRow .u8 (mk 16 (R i)))
      have L1 := Lib.hid (below_setRow (hw.alloc (by omega) (.cells (cellsOf .u8 (mk 16 zeroK)) 25)) (g := wr.heap.size) (by omega) (cellsOf .u8 (mk 16 (R i))))
      clear ha hz hw hc
      generalize encTo R n f i = s at *
      have k1 := subK_key hk
      have k2 := shK_key k1
      have k3 := mixCol_key k2
      by_cases h0 : i = 0
      · have d1 : decide (0 < i) = false := by simp; omega
        have d3 : decide ((0 : Int) < (i : Int)) = false := by simp; omega
        have H0 := Lib.hid h0; clear h0
        go_wp2_with (first
        | (refine wpList_load_part rfl 25 _ rfl B (o + i * 16) 16 (R i) rfl _ CR.out keyUnder rfl keyInfo ?_)
        | (refine store_row_on rfl 25 _ _ rfl rfl wr.heap.size (cellsOf .u8 (mk 16 (R i))) rfl rfl 25 (cellsOf .u8 (mk 16 (zeroK))) (IntBlk.new wr .u8 25 (mk 16 zeroK)) (keySize _) (by rw [cellsOf_size, cellsOf_size, mk_len, mk_len]) (cellsOf_one _ _) ?_)
        | (refine wpList_load_row rfl 25 _ rfl w.heap.size rfl 25 (cellsOf .u8 (mk 16 (s))) (0, 0) _ A1.out keyUnder rfl (keySize _) ?_)
        | (refine wpList_load_row rfl 25 _ rfl wr.heap.size rfl 25 (cellsOf .u8 (mk 16 (R i))) (0, 0) _ T1.out keyUnder rfl (keySize _) ?_)
        | fail)
        refine (Xor_any (s) (R i) hk hr _).mono ?_
        rintro e wx ⟨rfl, hb⟩
        have A2 := Lib.hid (A1.out.below hb A1.out.lt)
        have Z2 := Lib.hid (Z1.out.below hb Z1.out.lt)
        have T2 := Lib.hid (T1.out.below hb T1.out.lt)
        have L2 := Lib.hid (L1.out.trans (hb.mono L1.out.size))
        clear hb A1 Z1 L1 T1
        have A3 := Lib.hid (A2.out.setRow .u8 (mk 16 (xorK (s) (R i))))
        have Z3 := Lib.hid (Z2.out.otherRow (C := w.heap.size) (by omega) (cellsOf .u8 (mk 16 (xorK (s) (R i)))))
        have T3 := Lib.hid (T2.out.otherRow (C := w.heap.size) (by omega) (cellsOf .u8 (mk 16 (xorK (s) (R i)))))
        have L3 := Lib.hid (below_setRow L2.out (g := w.heap.size) (by omega) (cellsOf .u8 (mk 16 (xorK (s) (R i)))))
        go_wp2_with (first
        | (refine store_row_on rfl 25 _ _ rfl rfl w.heap.size (cellsOf .u8 (mk 16 (xorK (s) (R i)))) rfl rfl 25 (cellsOf .u8 (mk 16 (s))) A2.out (keySize _) (by rw [cellsOf_size, cellsOf_size, mk_len, mk_len]) (cellsOf_one _ _) ?_)
        | fail)
        go_roundw
        case rel => exact ⟨i + 1, by omega, by go_num, by rw [HS.out, inE_zero s H0.out]; exact A3.out, Z3.out, L3.out⟩
        case measure => simp [intOf]; omega
      · have d1 : decide ((0 : Int) < (i : Int)) = true := by simp; omega
        by_cases h1 : i + 1 < n
        · have d2 : decide ((i : Int) < (n : Int) - 1) = true := by simp; omega
          go_wp2_with (first
        | (refine wpList_load_part rfl 25 _ rfl B (o + i * 16) 16 (R i) rfl _ CR.out keyUnder rfl keyInfo ?_)
        | (refine store_row_on rfl 25 _ _ rfl rfl wr.heap.size (cellsOf .u8 (mk 16 (R i))) rfl rfl 25 (cellsOf .u8 (mk 16 (zeroK))) (IntBlk.new wr .u8 25 (mk 16 zeroK)) (keySize _) (by rw [cellsOf_size, cellsOf_size, mk_len, mk_len]) (cellsOf_one _ _) ?_)
        | (refine wpList_load_row rfl 25 _ rfl w.heap.size rfl 25 (cellsOf .u8 (mk 16 (s))) (0, 0) _ A1.out keyUnder rfl (keySize _) ?_)
        | fail)
          refine (subAll_k s hk _).mono ?_
          rintro e w2 ⟨rfl, hb⟩
          have A2 := Lib.hid (A1.out.below hb A1.out.lt)
          have Z2 := Lib.hid (Z1.out.below hb Z1.out.lt)
          have T2 := Lib.hid (T1.out.below hb T1.out.lt)
          have L2 := Lib.hid (L1.out.trans (hb.mono L1.out.size))
          clear hb A1 Z1 L1 T1
          go_wp2_with (first
        | fail)
          refine (Shift_any (subK s) _).mono ?_
          rintro e w3 ⟨rfl, hb⟩
          have A3 := Lib.hid (A2.out.below hb A2.out.lt)
          have Z3 := Lib.hid (Z2.out.below hb Z2.out.lt)
          have T3 := Lib.hid (T2.out.below hb T2.out.lt)
          have L3 := Lib.hid (L2.out.trans (hb.mono L2.out.size))
          clear hb A2 Z2 L2 T2
          have A4 := Lib.hid (A3.out.setRow .u8 (mk 16 (shK (subK s))))
          have Z4 := Lib.hid (Z3.out.otherRow (C := w.heap.size) (by omega) (cellsOf .u8 (mk 16 (shK (subK s)))))
          have T4 := Lib.hid (T3.out.otherRow (C := w.heap.size) (by omega) (cellsOf .u8 (mk 16 (shK (subK s)))))
          have L4 := Lib.hid (below_setRow L3.out (g := w.heap.size) (by omega) (cellsOf .u8 (mk 16 (shK (subK s)))))
          go_wp2_with (first
        | (refine store_row_on rfl 25 _ _ rfl rfl w.heap.size (cellsOf .u8 (mk 16 (shK (subK s)))) rfl rfl 25 (cellsOf .u8 (mk 16 (s))) A3.out (keySize _) (by rw [cellsOf_size, cellsOf_size, mk_len, mk_len]) (cellsOf_one _ _) ?_)
        | (refine wpList_load_row rfl 25 _ rfl w.heap.size rfl 25 (cellsOf .u8 (mk 16 (shK (subK s)))) (0, 0) _ A4.out keyUnder rfl (keySize _) ?_)
        | fail)
          refine (mixCols_any (shK (subK s)) k2 _).mono ?_
          rintro e w4 ⟨rfl, hb⟩
          have A5 := Lib.hid (A4.out.below hb A4.out.lt)
          have Z5 := Lib.hid (Z4.out.below hb Z4.out.lt)
          have T5 := Lib.hid (T4.out.below hb T4.out.lt)
          have L5 := Lib.hid (L4.out.trans (hb.mono L4.out.size))
          clear hb A4 Z4 L4 T4
          have A6 := Lib.hid (A5.out.setRow .u8 (mk 16 (colK mixK (shK (subK s)))))
          have Z6 := Lib.hid (Z5.out.otherRow (C := w.heap.size) (by omega) (cellsOf .u8 (mk 16 (colK mixK (shK (subK s))))))
          have T6 := Lib.hid (T5.out.otherRow (C := w.heap.size) (by omega) (cellsOf .u8 (mk 16 (colK mixK (shK (subK s))))))
          have L6 := Lib.hid (below_setRow L5.out (g := w.heap.size) (by omega) (cellsOf .u8 (mk 16 (colK mixK (shK (subK s))))))
          go_wp2_with (first
        | (refine store_row_on rfl 25 _ _ rfl rfl w.heap.size (cellsOf .u8 (mk 16 (colK mixK (shK (subK s))))) rfl rfl 25 (cellsOf .u8 (mk 16 (shK (subK s)))) A5.out (keySize _) (by rw [cellsOf_size, cellsOf_size, mk_len, mk_len]) (cellsOf_one _ _) ?_)
        | (refine wpList_load_row rfl 25 _ rfl w.heap.size rfl 25 (cellsOf .u8 (mk 16 (colK mixK (shK (subK s))))) (0, 0) _ A6.out keyUnder rfl (keySize _) ?_)
        | (refine wpList_load_row rfl 25 _ rfl wr.heap.size rfl 25 (cellsOf .u8 (mk 16 (R i))) (0, 0) _ T6.out keyUnder rfl (keySize _) ?_)
        | fail)
          refine (Xor_any (colK mixK (shK (subK s))) (R i) k3 hr _).mono ?_
          rintro e wx ⟨rfl, hb⟩
          have A7 := Lib.hid (A6.out.below hb A6.out.lt)
          have Z7 := Lib.hid (Z6.out.below hb Z6.out.lt)
          have T7 := Lib.hid (T6.out.below hb T6.out.lt)
          have L7 := Lib.hid (L6.out.trans (hb.mono L6.out.size))
          clear hb A6 Z6 L6 T6
          have A8 := Lib.hid (A7.out.setRow .u8 (mk 16 (xorK (colK mixK (shK (subK s))) (R i))))
          have Z8 := Lib.hid (Z7.out.otherRow (C := w.heap.size) (by omega) (cellsOf .u8 (mk 16 (xorK (colK mixK (shK (subK s))) (R i)))))
          have T8 := Lib.hid (T7.out.otherRow (C := w.heap.size) (by omega) (cellsOf .u8 (mk 16 (xorK (colK mixK (shK (subK s))) (R i)))))
          have L8 := Lib.hid (below_setRow L7.out (g := w.heap.size) (by omega) (cellsOf .u8 (mk 16 (xorK (colK mixK (shK (subK s))) (R i)))))
          go_wp2_with (first
        | (refine store_row_on rfl 25 _ _ rfl rfl w.heap.size (cellsOf .u8 (mk 16 (xorK (colK mixK (shK (subK s))) (R i)))) rfl rfl 25 (cellsOf .u8 (mk 16 (colK mixK (shK (subK s))))) A7.out (keySize _) (by rw [cellsOf_size, cellsOf_size, mk_len, mk_len]) (cellsOf_one _ _) ?_)
        | fail)
          go_roundw
          case rel => exact ⟨i + 1, by omega, by go_num, by rw [HS.out, inE_mid s h0 h1]; exact A8.out, Z8.out, L8.out⟩
          case measure => simp [intOf]; omega
        · have d2 : decide ((i : Int) < (n : Int) - 1) = false := by simp; omega
          go_wp2_with (first
        | (refine wpList_load_part rfl 25 _ rfl B (o + i * 16) 16 (R i) rfl _ CR.out keyUnder rfl keyInfo ?_)
        | (refine store_row_on rfl 25 _ _ rfl rfl wr.heap.size (cellsOf .u8 (mk 16 (R i))) rfl rfl 25 (cellsOf .u8 (mk 16 (zeroK))) (IntBlk.new wr .u8 25 (mk 16 zeroK)) (keySize _) (by rw [cellsOf_size, cellsOf_size, mk_len, mk_len]) (cellsOf_one _ _) ?_)
        | (refine wpList_load_row rfl 25 _ rfl w.heap.size rfl 25 (cellsOf .u8 (mk 16 (s))) (0, 0) _ A1.out keyUnder rfl (keySize _) ?_)
        | fail)
          refine (subAll_k s hk _).mono ?_
          rintro e w2 ⟨rfl, hb⟩
          have A2 := Lib.hid (A1.out.below hb A1.out.lt)
          have Z2 := Lib.hid (Z1.out.below hb Z1.out.lt)
          have T2 := Lib.hid (T1.out.below hb T1.out.lt)
          have L2 := Lib.hid (L1.out.trans (hb.mono L1.out.size))
          clear hb A1 Z1 L1 T1
          go_wp2_with (first
        | fail)
          refine (Shift_any (subK s) _).mono ?_
          rintro e w3 ⟨rfl, hb⟩
          have A3 := Lib.hid (A2.out.below hb A2.out.lt)
          have Z3 := Lib.hid (Z2.out.below hb Z2.out.lt)
          have T3 := Lib.hid (T2.out.below hb T2.out.lt)
          have L3 := Lib.hid (L2.out.trans (hb.mono L2.out.size))
          clear hb A2 Z2 L2 T2
          have A4 := Lib.hid (A3.out.setRow .u8 (mk 16 (shK (subK s))))
          have Z4 := Lib.hid (Z3.out.otherRow (C := w.heap.size) (by omega) (cellsOf .u8 (mk 16 (shK (subK s)))))
          have T4 := Lib.hid (T3.out.otherRow (C := w.heap.size) (by omega) (cellsOf .u8 (mk 16 (shK (subK s)))))
          have L4 := Lib.hid (below_setRow L3.out (g := w.heap.size) (by omega) (cellsOf .u8 (mk 16 (shK (subK s)))))
          go_wp2_with (first
        | (refine store_row_on rfl 25 _ _ rfl rfl w.heap.size (cellsOf .u8 (mk 16 (shK (subK s)))) rfl rfl 25 (cellsOf .u8 (mk 16 (s))) A3.out (keySize _) (by rw [cellsOf_size, cellsOf_size, mk_len, mk_len]) (cellsOf_one _ _) ?_)
        | (refine wpList_load_row rfl 25 _ rfl w.heap.size rfl 25 (cellsOf .u8 (mk 16 (shK (subK s)))) (0, 0) _ A4.out keyUnder rfl (keySize _) ?_)
        | (refine wpList_load_row rfl 25 _ rfl wr.heap.size rfl 25 (cellsOf .u8 (mk 16 (R i))) (0, 0) _ T4.out keyUnder rfl (keySize _) ?_)
        | fail)
          refine (Xor_any (shK (subK s)) (R i) k2 hr _).mono ?_
          rintro e wx ⟨rfl, hb⟩
          have A5 := Lib.hid (A4.out.below hb A4.out.lt)
          have Z5 := Lib.hid (Z4.out.below hb Z4.out.lt)
          have T5 := Lib.hid (T4.out.below hb T4.out.lt)
          have L5 := Lib.hid (L4.out.trans (hb.mono L4.out.size))
          clear hb A4 Z4 L4 T4
          have A6 := Lib.hid (A5.out.setRow .u8 (mk 16 (xorK (shK (subK s)) (R i))))
          have Z6 := Lib.hid (Z5.out.otherRow (C := w.heap.size) (by omega) (cellsOf .u8 (mk 16 (xorK (shK (subK s)) (R i)))))
          have T6 := Lib.hid (T5.out.otherRow (C := w.heap.size) (by omega) (cellsOf .u8 (mk 16 (xorK (shK (subK s)) (R i)))))
          have L6 := Lib.hid (below_setRow L5.out (g := w.heap.size) (by omega) (cellsOf .u8 (mk 16 (xorK (shK (subK s)) (R i)))))
          go_wp2_with (first
        | (refine store_row_on rfl 25 _ _ rfl rfl w.heap.size (cellsOf .u8 (mk 16 (xorK (shK (subK s)) (R i)))) rfl rfl 25 (cellsOf .u8 (mk 16 (shK (subK s)))) A5.out (keySize _) (by rw [cellsOf_size, cellsOf_size, mk_len, mk_len]) (cellsOf_one _ _) ?_)
        | fail)
          go_roundw
          case rel => exact ⟨i + 1, by omega, by go_num, by rw [HS.out, inE_last s h0 h1]; exact A6.out, Z6.out, L6.out⟩
          case measure => simp [intOf]; omega
    · obtain rfl : i = n := by omega
      have HA := Lib.hid ha
      have HZ := Lib.hid hz
      have HW := Lib.hid hw
      clear ha hz hw
      go_wp2_with (first
        | (refine wpList_load_row rfl 25 _ rfl w.heap.size rfl 25 (cellsOf .u8 (mk 16 (encTo R i f i))) (0, 0) _ HA.out keyUnder rfl (keySize _) ?_)
        | (refine wpList_store_row rfl 25 _ _ rfl (w.heap.size + 1) _ rfl rfl 25 (cellsOf .u8 (mk 16 zeroK)) HZ.out (keySize _) (by rw [cellsOf_size, cellsOf_size, mk_len, mk_len]) (cellsOf_one _ _) ?_))
      refine bodyPost_ret (results_cell_row rfl _ _ (w.heap.size + 1) 25 (cellsOf .u8 (mk 16 (encTo R i f i))) (0, 0) _ rfl (HZ.out.setRow .u8 (mk 16 (encTo R i f i))) keyUnder rfl (keySize _)) rfl ⟨rfl, below_setRow HW.out (by omega) _⟩
end Go.Proofs.Ytklnnmlegagfoaa

/- The contract of package cipher's Decrypt: it answers the key that the plain functions say, with any round keys, and writes nothing that was there. Conditions: all bytes are bytes; there are fewer than 2^32 round keys. -/
namespace Go.Proofs.Ytklnnmlegagfoaa
open Go.ChangeShapes Go.WideShapes Go.ChangeAt Go.RowKit

/-- An element's place in a slice. -/
theorem quiet_elem {o : Oper} {a : Act} {C : World → Prop} {K : Act → Prop} (t e : TypeId) (sz : Nat) (x y : Operand) (ho : o.op = .indexAddr t x y) (ht : Try.prog.underlying t = some (.slice e)) (hi : (Try.prog.info? e).map (·.size) = some sz)
    (B off n cap k : Nat) (hx : a.eval x = .slice (some ⟨B, off, none⟩) n cap) (hy : a.eval y = .int .i64 k) (hk4 : k < n)
    (hk : K (a.put o.dst (.pointer (some ⟨B, off + k * sz, none⟩)))) : o.quiet Try.prog a C K := by
  refine quiet_value _ (fun w _ => ?_) hk
  have h0 : (k : Int) < n := by omega
  cases hq : Try.prog.info? e with
  | none => simp [hq] at hi
  | some i =>
    have hs : i.size = sz := by simpa [hq] using hi
    unfold execOp
    simp only [ho, hx, hy]
    simp [go_sem, ht, h0, sizeOf, typeInfo, hq, hs, Addr.add]
theorem decTo_left {R : Nat → Nat → Nat} {n i : Nat} (f : Nat → Nat) (h : i < n) : decTo R n f (n - i) = inD n i (xorK (decTo R n f (n - (i + 1))) (R i)) := by
  rw [show n - i = (n - (i + 1)) + 1 by omega, decTo_step, show n - 1 - (n - (i + 1)) = i by omega]
theorem call_xor (args : Array Value) (w : World) : (callFunc 58 args).run Try.prog w = .ok (.enter 58 args) w := by simp [go_sem]
theorem keysUnder : Try.prog.underlying 44 = some (.slice 25) := Try.underlying44
attribute [local irreducible] inE inD encTo decTo xorK shK unK subK bakK colK mixK unmK

set_option maxRecDepth 100000 in
set_option maxHeartbeats 4000000 in
theorem Decrypt_any (p : Option Addr) (n cap : Nat) (R : Nat → Nat → Nat) (f : Nat → Nat) (hR : ∀ i, i < n → IsKey (R i)) (hf : IsKey f) (hn : n < 4294967296) (w : World) (hp : KeysAt w p n R) :
    Calls Try.prog 51 #[.slice p n cap, .agg (cellsOf .u8 (mk 16 f))] w fun e w' => e = .returned (.agg (cellsOf .u8 (mk 16 (decK R n f)))) ∧ Below w.heap.size w w' := by
  have q1 : IntKind.i64.wrap ((n : Int) - 1) = (n : Int) - 1 := IntWalk.i64_in _ (by omega)
  rw [decK_is]
  go_enter Try.func51, Try.ntmps51
  go_wp2
  go_loopw [6] (fun v6 wr => ∃ (m : Nat) (z : Int), m ≤ n ∧ z + 1 = m ∧ v6 = .int .i64 z ∧ IntBlk wr w.heap.size .u8 25 (mk 16 (decTo R n f (n - m))) ∧ IntBlk wr (w.heap.size + 1) .u8 25 (mk 16 zeroK) ∧ Below w.heap.size w wr) (fun v6 _ => (intOf v6 + 1).toNat)
  case atStart => exact ⟨n, (n : Int) - 1, by omega, by omega, rfl, by rw [Nat.sub_self, decTo_zero]; exact (IntBlk.new w .u8 25 (mk 16 f)).alloc _, blk_two w .u8 25 (mk 16 zeroK) _, below_two w _ _⟩
  case round =>
    obtain ⟨m, z, hm, hz1, rfl, ha, hz, hw⟩ := hrel
    have hs : w.heap.size + 1 < wr.heap.size := hz.lt
    cases m with
    | zero =>
      obtain rfl : z = -1 := by omega
      have HA := Lib.hid ha
      have HZ := Lib.hid hz
      have HW := Lib.hid hw
      clear ha hz hw hz1 hm
      go_wp2_with (first
        | (refine wpList_load_row rfl 25 _ rfl w.heap.size rfl 25 (cellsOf .u8 (mk 16 (decTo R n f n))) (0, 0) _ HA.out keyUnder rfl (keySize _) ?_)
        | (refine wpList_store_row rfl 25 _ _ rfl (w.heap.size + 1) _ rfl rfl 25 (cellsOf .u8 (mk 16 zeroK)) HZ.out (keySize _) (by rw [cellsOf_size, cellsOf_size, mk_len, mk_len]) (cellsOf_one _ _) ?_))
      refine bodyPost_ret (results_cell_row rfl _ _ (w.heap.size + 1) 25 (cellsOf .u8 (mk 16 (decTo R n f n))) (0, 0) _ rfl (HZ.out.setRow .u8 (mk 16 (decTo R n f n))) keyUnder rfl (keySize _)) rfl ⟨rfl, below_setRow HW.out (by omega) _⟩
    | succ i =>
      obtain rfl : z = i := by omega
      rcases hp with hp | ⟨B, o, rfl, hB, hc⟩
      · omega
      have hk := decTo_key hR hf (n - (i + 1)) (by omega)
      have hr := hR i hm
      have CR := Lib.hid (fun (w' : World) (h : Below wr.heap.size wr w') => ((hc i hm).below hw hB).below h (by have := hw.size; omega))
      have HS := Lib.hid (decTo_left (R := R) f hm)
      have AC := Lib.hid (fun (w' : World) (h : Below wr.heap.size wr w') => ha.below h ha.lt)
      have ZC := Lib.hid (fun (w' : World) (h : Below wr.heap.size wr w') => hz.below h hz.lt)
      have LC := Lib.hid (fun (w' : World) (h : Below wr.heap.size wr w') => hw.trans (h.mono hw.size))
      clear ha hz hw hc hz1
      generalize decTo R n f (n - (i + 1)) = s at *
      have kx := xorK_key hk hr
      have k1 := unmCol_key kx
      have k2 := unK_key k1
      have k3 := unK_key kx
      have e1 : i < n := hm
      go_wp2
      refine wp_region_class_tail 6 (fun w' => Below wr.heap.size wr w') (by kernel_rfl) (by kernel_rfl) ((Below.refl _ _).drew) ?_
      simp only [List.take_succ_cons, List.take_zero, List.drop_succ_cons, List.drop_zero]
      iterate 6 (first
        | go_big_quiet_skip
        | (go_big_quiet_want
           first
             | (go_big_quiet_op; go_big_quiet_on)
             | ((first
                 | (refine quiet_load _ rfl w.heap.size s rfl AC.out ?_)
                 | (refine quiet_elem 44 25 16 _ _ rfl keysUnder keyInfo B o n cap i rfl rfl e1 ?_)
                 | (refine quiet_load_part 25 _ rfl B (o + i * 16) 16 (R i) rfl _ CR.out keyUnder rfl keyInfo ?_)
                 | (refine quiet_keys _ _ _ _ rfl 58 rfl s rfl (R i) rfl _ call_xor (class_of (Xor_any s (R i) hk hr)) ?_)); go_simp; go_big_quiet_on)))
      refine wpQuiet_nil ?_
      intro wx hwx
      have A1 := Lib.hid (AC.out _ hwx)
      have Z1 := Lib.hid (ZC.out _ hwx)
      have L1 := Lib.hid (LC.out _ hwx)
      clear hwx AC ZC LC CR
      by_cases h0 : i = 0
      · have d1 : decide (0 < i) = false := by simp; omega
        have d3 : decide ((0 : Int) < (i : Int)) = false := by simp; omega
        have H0 := Lib.hid h0; clear h0
        have A2 := Lib.hid (A1.out.setRow .u8 (mk 16 (xorK s (R i))))
        have Z2 := Lib.hid (Z1.out.otherRow (C := w.heap.size) (by omega) (cellsOf .u8 (mk 16 (xorK s (R i)))))
        have L2 := Lib.hid (below_setRow L1.out (g := w.heap.size) (by omega) (cellsOf .u8 (mk 16 (xorK s (R i)))))
        go_wp2_with (first
        | (refine store_row_on rfl 25 _ _ rfl rfl w.heap.size (cellsOf .u8 (mk 16 (xorK s (R i)))) rfl rfl 25 (cellsOf .u8 (mk 16 (s))) A1.out (keySize _) (by rw [cellsOf_size, cellsOf_size, mk_len, mk_len]) (cellsOf_one _ _) ?_)
        | fail)
        go_roundw
        case rel => exact ⟨i, (i : Int) - 1, by omega, by omega, rfl, by rw [HS.out, inD_zero _ H0.out]; exact A2.out, Z2.out, L2.out⟩
        case measure => simp [intOf]
      · have d1 : decide ((0 : Int) < (i : Int)) = true := by simp; omega
        by_cases h1 : i + 1 < n
        · have d2 : decide ((i : Int) < (n : Int) - 1) = true := by simp; omega
          have A2 := Lib.hid (A1.out.setRow .u8 (mk 16 (xorK s (R i))))
          have Z2 := Lib.hid (Z1.out.otherRow (C := w.heap.size) (by omega) (cellsOf .u8 (mk 16 (xorK s (R i)))))
          have L2 := Lib.hid (below_setRow L1.out (g := w.heap.size) (by omega) (cellsOf .u8 (mk 16 (xorK s (R i)))))
          go_wp2_with (first
        | (refine store_row_on rfl 25 _ _ rfl rfl w.heap.size (cellsOf .u8 (mk 16 (xorK s (R i)))) rfl rfl 25 (cellsOf .u8 (mk 16 (s))) A1.out (keySize _) (by rw [cellsOf_size, cellsOf_size, mk_len, mk_len]) (cellsOf_one _ _) ?_)
        | (refine wpList_load_row rfl 25 _ rfl w.heap.size rfl 25 (cellsOf .u8 (mk 16 (xorK s (R i)))) (0, 0) _ A2.out keyUnder rfl (keySize _) ?_)
        | fail)
          refine (unmCols_any (xorK s (R i)) kx _).mono ?_
          rintro e w2 ⟨rfl, hb⟩
          have A3 := Lib.hid (A2.out.below hb A2.out.lt)
          have Z3 := Lib.hid (Z2.out.below hb Z2.out.lt)
          have L3 := Lib.hid (L2.out.trans (hb.mono L2.out.size))
          clear hb A2 Z2 L2
          have A4 := Lib.hid (A3.out.setRow .u8 (mk 16 (colK unmK (xorK s (R i)))))
          have Z4 := Lib.hid (Z3.out.otherRow (C := w.heap.size) (by omega) (cellsOf .u8 (mk 16 (colK unmK (xorK s (R i))))))
          have L4 := Lib.hid (below_setRow L3.out (g := w.heap.size) (by omega) (cellsOf .u8 (mk 16 (colK unmK (xorK s (R i))))))
          go_wp2_with (first
        | (refine store_row_on rfl 25 _ _ rfl rfl w.heap.size (cellsOf .u8 (mk 16 (colK unmK (xorK s (R i))))) rfl rfl 25 (cellsOf .u8 (mk 16 (xorK s (R i)))) A3.out (keySize _) (by rw [cellsOf_size, cellsOf_size, mk_len, mk_len]) (cellsOf_one _ _) ?_)
        | (refine wpList_load_row rfl 25 _ rfl w.heap.size rfl 25 (cellsOf .u8 (mk 16 (colK unmK (xorK s (R i))))) (0, 0) _ A4.out keyUnder rfl (keySize _) ?_)
        | fail)
          refine (Unshift_any (colK unmK (xorK s (R i))) k1 _).mono ?_
          rintro e w3 ⟨rfl, hb⟩
          have A5 := Lib.hid (A4.out.below hb A4.out.lt)
          have Z5 := Lib.hid (Z4.out.below hb Z4.out.lt)
          have L5 := Lib.hid (L4.out.trans (hb.mono L4.out.size))
          clear hb A4 Z4 L4
          go_wp2_with (first
        | fail)
          refine (backAll_k (unK (colK unmK (xorK s (R i)))) k2 _).mono ?_
          rintro e w4 ⟨rfl, hb⟩
          have A6 := Lib.hid (A5.out.below hb A5.out.lt)
          have Z6 := Lib.hid (Z5.out.below hb Z5.out.lt)
          have L6 := Lib.hid (L5.out.trans (hb.mono L5.out.size))
          clear hb A5 Z5 L5
          have A7 := Lib.hid (A6.out.setRow .u8 (mk 16 (bakK (unK (colK unmK (xorK s (R i)))))))
          have Z7 := Lib.hid (Z6.out.otherRow (C := w.heap.size) (by omega) (cellsOf .u8 (mk 16 (bakK (unK (colK unmK (xorK s (R i))))))))
          have L7 := Lib.hid (below_setRow L6.out (g := w.heap.size) (by omega) (cellsOf .u8 (mk 16 (bakK (unK (colK unmK (xorK s (R i))))))))
          go_wp2_with (first
        | (refine store_row_on rfl 25 _ _ rfl rfl w.heap.size (cellsOf .u8 (mk 16 (bakK (unK (colK unmK (xorK s (R i))))))) rfl rfl 25 (cellsOf .u8 (mk 16 (colK unmK (xorK s (R i))))) A6.out (keySize _) (by rw [cellsOf_size, cellsOf_size, mk_len, mk_len]) (cellsOf_one _ _) ?_)
        | fail)
          go_roundw
          case rel => exact ⟨i, (i : Int) - 1, by omega, by omega, rfl, by rw [HS.out, inD_mid _ h0 h1]; exact A7.out, Z7.out, L7.out⟩
          case measure => simp [intOf]
        · have d2 : decide ((i : Int) < (n : Int) - 1) = false := by simp; omega
          have A2 := Lib.hid (A1.out.setRow .u8 (mk 16 (xorK s (R i))))
          have Z2 := Lib.hid (Z1.out.otherRow (C := w.heap.size) (by omega) (cellsOf .u8 (mk 16 (xorK s (R i)))))
          have L2 := Lib.hid (below_setRow L1.out (g := w.heap.size) (by omega) (cellsOf .u8 (mk 16 (xorK s (R i)))))
          go_wp2_with (first
        | (refine store_row_on rfl 25 _ _ rfl rfl w.heap.size (cellsOf .u8 (mk 16 (xorK s (R i)))) rfl rfl 25 (cellsOf .u8 (mk 16 (s))) A1.out (keySize _) (by rw [cellsOf_size, cellsOf_size, mk_len, mk_len]) (cellsOf_one _ _) ?_)
        | (refine wpList_load_row rfl 25 _ rfl w.heap.size rfl 25 (cellsOf .u8 (mk 16 (xorK s (R i)))) (0, 0) _ A2.out keyUnder rfl (keySize _) ?_)
        | fail)
          refine (Unshift_any (xorK s (R i)) kx _).mono ?_
          rintro e w3 ⟨rfl, hb⟩
          have A3 := Lib.hid (A2.out.below hb A2.out.lt)
          have Z3 := Lib.hid (Z2.out.below hb Z2.out.lt)
          have L3 := Lib.hid (L2.out.trans (hb.mono L2.out.size))
          clear hb A2 Z2 L2
          go_wp2_with (first
        | fail)
          refine (backAll_k (unK (xorK s (R i))) k3 _).mono ?_
          rintro e w4 ⟨rfl, hb⟩
          have A4 := Lib.hid (A3.out.below hb A3.out.lt)
          have Z4 := Lib.hid (Z3.out.below hb Z3.out.lt)
          have L4 := Lib.hid (L3.out.trans (hb.mono L3.out.size))
          clear hb A3 Z3 L3
          have A5 := Lib.hid (A4.out.setRow .u8 (mk 16 (bakK (unK (xorK s (R i))))))
          have Z5 := Lib.hid (Z4.out.otherRow (C := w.heap.size) (by omega) (cellsOf .u8 (mk 16 (bakK (unK (xorK s (R i)))))))
          have L5 := Lib.hid (below_setRow L4.out (g := w.heap.size) (by omega) (cellsOf .u8 (mk 16 (bakK (unK (xorK s (R i)))))))
          go_wp2_with (first
        | (refine store_row_on rfl 25 _ _ rfl rfl w.heap.size (cellsOf .u8 (mk 16 (bakK (unK (xorK s (R i)))))) rfl rfl 25 (cellsOf .u8 (mk 16 (xorK s (R i)))) A4.out (keySize _) (by rw [cellsOf_size, cellsOf_size, mk_len, mk_len]) (cellsOf_one _ _) ?_)
        | fail)
          go_roundw
          case rel => exact ⟨i, (i : Int) - 1, by omega, by omega, rfl, by rw [HS.out, inD_last _ h0 h1]; exact A5.out, Z5.out, L5.out⟩
          case measure => simp [intOf]
end Go.Proofs.Ytklnnmlegagfoaa

/- The contracts of package citadelref01's bit and Mul: each answers what the plain functions below say, and writes nothing that was there. Conditions: the arguments are bytes; a bit's number is from 0 to 100. -/
namespace Go.Proofs.Ytklnnmlegagfoaa
open Go.ChangeShapes Go.WideShapes Go.ChangeAt Go.RowKit

def bitI (b i : Int) : Int := (b.toNat / 2 ^ i.toNat % 2 : Nat)
set_option maxRecDepth 100000 in
theorem bitI_bd (b i : Int) : 0 ≤ bitI b i ∧ bitI b i ≤ 1 := by unfold bitI; omega

set_option maxHeartbeats 400000 in
set_option maxRecDepth 100000 in
theorem bit_any (b i : Int) (h0 : 0 ≤ b) (h1 : b ≤ 255) (g0 : 0 ≤ i) (g1 : i ≤ 100) (w : World) :
    Calls Try.prog 36 #[.int .u8 b, .int .i64 i] w fun e w' => e = .returned (.int .i64 (bitI b i)) ∧ w = w' := by
  go_enter Try.func36, Try.ntmps36
  go_wp2
  go_loop [0, 5] (fun vb vk => ∃ (k : Nat) (x : Int), (k : Int) ≤ i ∧ 0 ≤ x ∧ x ≤ 255 ∧ vb = .int .u8 x ∧ vk = .int .i64 k ∧ x.toNat = b.toNat / 2 ^ k) (fun _ vk => (i - intOf vk).toNat)
  case atStart => exact ⟨0, b, by omega, h0, h1, rfl, rfl, by simp⟩
  case round =>
    obtain ⟨k, x, hk, x0, x1, rfl, rfl, hx⟩ := hrel
    have HX := Lib.hid hx; clear hx
    by_cases hz : (k : Int) < i
    · go_wp2
      go_round
      case rel => exact ⟨k + 1, x / 2, by omega, by omega, by omega, rfl, by go_num, by have := HX.out; rw [Nat.pow_succ, ← Nat.div_div_eq_div_mul, ← this]; omega⟩
      case measure => simp [intOf]; omega
    · go_wp2
      go_ret
      have e : bitI b i = x % 2 := by
        have := HX.out; unfold bitI; rw [show i.toNat = k by omega, ← this]; omega
      rw [e]; exact ⟨rfl, rfl⟩
set_option maxRecDepth 100000 in
theorem bit_same (b i : Int) (h0 : 0 ≤ b) (h1 : b ≤ 255) (g0 : 0 ≤ i) (g1 : i ≤ 100) (w : World) :
    Calls Try.prog 36 #[.int .u8 b, .int .i64 i] w fun e w' => e = .returned (.int .i64 (bitI b i)) ∧ w' = w :=
  (bit_any b i h0 h1 g0 g1 w).mono fun _ _ ⟨he, hw⟩ => ⟨he, hw.symm⟩

set_option maxRecDepth 100000 in
theorem row_set (a b : Int) (i k p : Nat) {q : Nat} {x y : Int} (hq : bt (rowP a.toNat b.toNat i k p) (i + k) = q) (hx : bitI a i = x) (hy : bitI b k = y) :
    (bitsOf 15 (rowP a.toNat b.toNat i k p)).set (i + k) (((q : Int) + x * y) % 2) = bitsOf 15 (rowP a.toNat b.toNat i (k + 1) p) := by
  subst hq hx hy
  show _ = bitsOf 15 (rowP a.toNat b.toNat i k p ^^^ (bt a.toNat i * bt b.toNat k * 2 ^ (i + k)))
  refine bitsOf_set 15 _ (mul_bt (bt_lt _ _) (bt_lt _ _)) ?_
  rfl

set_option maxHeartbeats 1000000 in
set_option maxRecDepth 100000 in
theorem refMul_any (a b : Int) (h0 : 0 ≤ a) (h1 : a ≤ 255) (g0 : 0 ≤ b) (g1 : b ≤ 255) (w : World) :
    Calls Try.prog 52 #[.int .u8 a, .int .u8 b] w fun e w' => e = .returned (.int .u8 (mulI a b)) ∧ Below w.heap.size w w' := by
  go_enter Try.func52, Try.ntmps52
  go_wp2
  go_loopw [6] (fun v6 wr => ∃ i : Nat, i ≤ 8 ∧ v6 = .int .i64 i ∧ IntBlk wr w.heap.size .i64 97 (bitsOf 15 (allP a.toNat b.toNat i)) ∧ Below w.heap.size w wr) (fun v6 _ => 8 - (intOf v6).toNat)
  case atStart => exact ⟨0, by omega, rfl, IntBlk.new w .i64 97 (bitsOf 15 0), (Below.refl _ _).alloc (Nat.le_refl _) _⟩
  case round =>
    obtain ⟨i, hi, rfl, hblk, hbel⟩ := hrel
    by_cases hlt : i < 8
    · have hd : decide ((i : Int) < 8) = true := by simp; omega
      go_wp2
      go_loopw [7] (fun v7 wk => ∃ k : Nat, k ≤ 8 ∧ v7 = .int .i64 k ∧ IntBlk wk w.heap.size .i64 97 (bitsOf 15 (rowP a.toNat b.toNat i k (allP a.toNat b.toNat i))) ∧ Below w.heap.size w wk) (fun v7 _ => 8 - (intOf v7).toNat)
      case atStart => exact ⟨0, by omega, rfl, hblk, hbel⟩
      case round =>
        obtain ⟨k, hk, rfl, hblk2, hbel2⟩ := hrel
        by_cases hlt2 : k < 8
        · have hc := hblk2.cell (i := i + k) (by rw [bitsOf_len]; omega)
          have hf := hblk2.free (i + k)
          rw [bitsOf_get _ _ (by omega)] at hc
          have bb := bt_lt (rowP a.toNat b.toNat i k (allP a.toNat b.toNat i)) (i + k)
          have b1 := bitI_bd a i
          have b2 := bitI_bd b k
          generalize hbt : bt (rowP a.toNat b.toNat i k (allP a.toNat b.toNat i)) (i + k) = q at hc bb
          have HQ := Lib.hid hbt; clear hbt
          have HB := Lib.hid hblk2; clear hblk2
          have HL := Lib.hid hbel2; clear hbel2
          have BS := fun W => bit_same a i h0 h1 (by omega) (by omega) W
          have BT := fun W => bit_same b k g0 g1 (by omega) (by omega) W
          generalize hx : bitI a i = x at *
          generalize hy : bitI b k = y at *
          have HX := Lib.hid hx; clear hx
          have HY := Lib.hid hy; clear hy
          have m0 : 0 ≤ x * y ∧ x * y ≤ 1 := by
            rcases (show x = 0 ∨ x = 1 by omega) with e | e <;> rw [e] <;> omega
          have e1 : IntKind.i64.wrap ((i : Int) + (k : Int)) = (i : Int) + (k : Int) := IntWalk.i64_in _ (by omega)
          have e2 : 0 ≤ (i : Int) + (k : Int) := by omega
          have e3 : ((i : Int) + (k : Int)).toNat = i + k := by omega
          have e7 : (i : Int) + (k : Int) < 15 := by omega
          have e4 : IntKind.i64.wrap (x * y) = x * y := IntWalk.i64_in _ (by omega)
          have e5 : IntKind.i64.wrap ((q : Int) + x * y) = (q : Int) + x * y := IntWalk.i64_in _ (by omega)
          have e6 : ((q : Int) + x * y).tmod 2 = ((q : Int) + x * y) % 2 := IntWalk.rem_in _ _ (by omega)
          have HBS := Lib.hid BS; clear BS
          have HBT := Lib.hid BT; clear BT
          go_wp2
          refine wp_region_still_tail 18 (by kernel_rfl) (by kernel_rfl) ?_
          simp only [List.take_succ_cons, List.take_zero, List.drop_succ_cons, List.drop_zero]
          change wpStill _ _ wr.drew (fun a' => wpList _ _ _ _ a' wr.drew) _ _
          iterate 10 still_step
          refine wpStill_step (fun K hK => ?_)
          go_simp
          refine ⟨_, HBS.out _, hK _ ?_⟩
          clear hK K
          iterate 2 still_step
          refine wpStill_step (fun K hK => ?_)
          go_simp
          refine ⟨_, HBT.out _, hK _ ?_⟩
          clear hK K
          iterate 4 still_step
          refine wpStill_nil ?_
          go_wp2
          go_roundw
          case rel => exact ⟨k + 1, by omega, by go_num, by rw [← row_set a b i k _ HQ.out HX.out HY.out]; exact (HB.out.set (i + k) _).drew, (HL.out.setCell (Nat.le_refl _) _).drew⟩
          case measure => simp [intOf]; omega
        · obtain rfl : k = 8 := by omega
          have HB := Lib.hid hblk2; clear hblk2
          have HL := Lib.hid hbel2; clear hbel2
          go_wp2
          go_roundw
          case rel => exact ⟨i + 1, by omega, by go_num, HB.out, HL.out⟩
          case measure => simp [intOf]; omega
    · obtain rfl : i = 8 := by omega
      have hd : decide (((8 : Nat) : Int) < 8) = false := rfl
      go_wp2
      go_loopw [8] (fun v8 wk => ∃ n j : Nat, n ≤ 7 ∧ n + j = 14 ∧ v8 = .int .i64 j ∧ IntBlk wk w.heap.size .i64 97 (bitsOf 15 (redP n (allP a.toNat b.toNat 8))) ∧ Below w.heap.size w wk) (fun v8 _ => (intOf v8).toNat - 7)
      case atStart => exact ⟨0, 14, by omega, by omega, rfl, hblk, hbel⟩
      case round =>
        obtain ⟨n, j, hn, hj, rfl, hblk3, hbel3⟩ := hrel
        clear hblk hbel
        by_cases hlt3 : 8 ≤ j
        · have c0 := hblk3.cell (i := j) (by rw [bitsOf_len]; omega)
          have c1 := hblk3.cell (i := j - 8) (by rw [bitsOf_len]; omega)
          have c2 := hblk3.cell (i := j - 7) (by rw [bitsOf_len]; omega)
          have c3 := hblk3.cell (i := j - 5) (by rw [bitsOf_len]; omega)
          have c4 := hblk3.cell (i := j - 4) (by rw [bitsOf_len]; omega)
          have f0 := hblk3.free j
          have f1 := hblk3.free (j - 8)
          have f2 := hblk3.free (j - 7)
          have f3 := hblk3.free (j - 5)
          have f4 := hblk3.free (j - 4)
          rw [bitsOf_get _ _ (by omega)] at c0 c1 c2 c3 c4
          generalize hp : redP n (allP a.toNat b.toNat 8) = p at *
          have HP := Lib.hid hp; clear hp
          have HB := Lib.hid hblk3; clear hblk3
          have HL := Lib.hid hbel3; clear hbel3
          have b0 := bt_lt p j
          have b1 := bt_lt p (j - 8)
          have b2 := bt_lt p (j - 7)
          have b3 := bt_lt p (j - 5)
          have b4 := bt_lt p (j - 4)
          generalize hq0 : bt p j = q0 at *
          generalize hq1 : bt p (j - 8) = q1 at *
          generalize hq2 : bt p (j - 7) = q2 at *
          generalize hq3 : bt p (j - 5) = q3 at *
          generalize hq4 : bt p (j - 4) = q4 at *
          have HQ := Lib.hid (And.intro hq0 (And.intro hq1 (And.intro hq2 (And.intro hq3 hq4))))
          clear hq0 hq1 hq2 hq3 hq4
          by_cases ho : q0 = 1
          · subst ho
            go_wp2
            go_roundw
            case rel =>
              refine ⟨n + 1, j - 1, by omega, by omega, by congr 1; omega, ?_, (((((HL.out.setCell (Nat.le_refl _) _).setCell (Nat.le_refl _) _).setCell (Nat.le_refl _) _).setCell (Nat.le_refl _) _).setCell (Nat.le_refl _) _)⟩
              obtain ⟨g0', g1', g2', g3', g4'⟩ := HQ.out
              rw [redP_step hj, HP.out, ← cut_set hlt3 g0', g1', g2', g3', g4']
              exact ((((HB.out.set j 0).set (j - 8) _).set (j - 7) _).set (j - 5) _).set (j - 4) _
            case measure => simp [intOf]; omega
          · have hz : ((q0 : Int) == 1) = false := by simp; omega
            go_wp2
            go_roundw
            case rel => exact ⟨n + 1, j - 1, by omega, by omega, by congr 1; omega, by rw [redP_step hj, HP.out, cut_no (by rw [HQ.out.1]; exact ho)]; exact HB.out, HL.out⟩
            case measure => simp [intOf]; omega
        · obtain rfl : j = 7 := by omega
          obtain rfl : n = 7 := by omega
          have hd2 : decide (((7 : Nat) : Int) ≥ 8) = false := rfl
          generalize hp : redP 7 (allP a.toNat b.toNat 8) = p at *
          have HP := Lib.hid hp; clear hp
          go_wp2
          go_loop [9, 10] (fun v9 v10 => ∃ (m : Nat) (z o : Int), m ≤ 8 ∧ z + 1 = m ∧ v10 = .int .i64 z ∧ v9 = .int .i64 o ∧ o = (p % 256 / 2 ^ m : Nat)) (fun _ v10 => (intOf v10 + 1).toNat)
          case atStart => exact ⟨8, 7, 0, by omega, by omega, rfl, rfl, by rw [out_start]; rfl⟩
          case round =>
            obtain ⟨m, z, o, hm, hz, rfl, rfl, ho⟩ := hrel
            have HB := Lib.hid hblk3
            have HL := Lib.hid hbel3
            clear hblk3 hbel3
            have ob := out_bd ho
            have HO := Lib.hid ho; clear ho
            cases m with
            | zero =>
              obtain rfl : z = -1 := by omega
              clear hz hm
              go_wp2
              go_ret
              refine ⟨?_, HL.out⟩
              have e : o = mulI a b := by rw [HO.out, ← HP.out, refMul_end]; exact refI_is h1 g1
              rw [e]; rfl
            | succ m =>
              obtain rfl : z = m := by omega
              have c0 := HB.out.cell (i := m) (by rw [bitsOf_len]; omega)
              rw [bitsOf_get _ _ (by omega)] at c0
              have b0 := bt_lt p m
              have LS := Lib.hid (low_step p m (by omega))
              generalize hq : bt p m = q at *
              clear hq hz
              go_wp2
              go_round
              case rel => exact ⟨m, (m : Int) - 1, 2 * o + q, by omega, by omega, rfl, rfl, out_step HO.out LS.out⟩
              case measure => simp [intOf]
end Go.Proofs.Ytklnnmlegagfoaa

/- The contract of package citadelref02's Constant: a power of 2, if there is such a round, else 0; and it writes nothing that was there. Condition: the argument is an int. -/
namespace Go.Proofs.Ytklnnmlegagfoaa
open Go.ChangeShapes Go.WideShapes Go.ChangeAt Go.RowKit

theorem Constant_any (i : Int) (w : World) :
    Calls Try.prog 79 #[.int .i64 i] w fun e w' => e = .returned (.agg (cellsOf .u8 (mk 4 (oneK (conN i))))) ∧ Below w.heap.size w w' := by
  by_cases h : i < 1 ∨ 60 < i
  · exact Constant_out i h w
  · obtain ⟨M, rfl⟩ : ∃ M : Nat, i = M := ⟨i.toNat, by omega⟩
    exact Constant_in M (by omega) (by omega) w

set_option maxHeartbeats 400000 in
theorem refConst_any (i : Int) (w : World) :
    Calls Try.prog 41 #[.int .i64 i] w fun e w' => e = .returned (.int .u8 (conI i)) ∧ Below w.heap.size w w' := by
  by_cases h : i < 1 ∨ 60 < i
  · have hc : conI i = 0 := by unfold conI; rw [if_neg (by omega)]
    rw [hc]
    by_cases h1 : i < 1
    · have hd : decide (i < 1) = true := by simpa using h1
      go_enter Try.func41, Try.ntmps41
      go_wp2
      go_ret
      exact ⟨rfl, Below.refl _ _⟩
    · have h2 : 60 < i := by omega
      have hd : decide (i < 1) = false := by simpa using h1
      have hd2 : decide (60 < i) = true := by simpa using h2
      go_enter Try.func41, Try.ntmps41
      go_wp2
      go_ret
      exact ⟨rfl, Below.refl _ _⟩
  · obtain ⟨M, rfl⟩ : ∃ M : Nat, i = M := ⟨i.toNat, by omega⟩
    have h1 : 1 ≤ M := by omega
    have h2 : M ≤ 60 := by omega
    rw [conI_in rfl h1 h2]
    have hd : decide ((M : Int) < 1) = false := by simp; omega
    have hd2 : decide (60 < (M : Int)) = false := by simp; omega
    go_enter Try.func41, Try.ntmps41
    go_wp2
    go_loopw [3, 4] (fun v3 v4 wr => ∃ (k n : Nat), k < M ∧ n = k + 1 ∧ v3 = .int .u8 (powI 2 k) ∧ v4 = .int .i64 n ∧ Below w.heap.size w wr) (fun _ v4 _ => M - (intOf v4).toNat)
    case atStart => exact ⟨0, 1, by omega, rfl, rfl, rfl, Below.refl _ _⟩
    case round =>
      obtain ⟨k, n, hk, hn, rfl, rfl, hbel⟩ := hrel
      have HL := Lib.hid hbel; clear hbel
      have pb := powI_bd (b := 2) k
      by_cases hz : n < M
      · have hn' : k + 1 < M := by omega
        have HN := Lib.hid hn; clear hn
        go_wp2_with (go_at_call 52; refine (refMul_any _ _ pb.1 pb.2 (by omega) (by omega) _).mono ?_; rintro e w' ⟨rfl, hb⟩)
        go_roundw
        case rel => exact ⟨k + 1, n + 1, hn', by rw [HN.out], rfl, by go_num, HL.out.trans (hb.mono HL.out.size)⟩
        case measure => simp [intOf]; omega
      · obtain rfl : n = M := by omega
        have e := Lib.hid (show k = n - 1 by omega)
        clear hn
        have ht : decide ((n : Int) < (n : Int)) = false := by simp
        go_wp2
        go_ret
        rw [e.out]; exact ⟨rfl, HL.out⟩
end Go.Proofs.Ytklnnmlegagfoaa

/- Plain mathematics of the round keys: the words, one behind the other. Condition: the key's bytes are bytes. -/
namespace Go.Proofs.Ytklnnmlegagfoaa
open Go

/-- What the word ahead adds to word k. -/
def tnK (N k : Nat) (t : Nat → Nat) : Nat → Nat := if k % N = 0 then xorK (subK (turnK t)) (oneK (conN (k / N : Nat))) else if N = 8 ∧ k % 8 = 4 then subK t else t
def newW (N : Nat) (g : Nat → Nat) (W : Nat → Nat → Nat) (k : Nat) : Nat → Nat := if k < N then fun j => g (4 * k + j) else xorK (W (k - N)) (tnK N k (W (k - 1)))
/-- The first k words. -/
def wdTo (N : Nat) (g : Nat → Nat) : Nat → Nat → Nat → Nat
  | 0 => fun _ _ => 0
  | k + 1 => fun i => if i = k then newW N g (wdTo N g k) k else wdTo N g k i
/-- Words in a row. -/
def flat (W : Nat → Nat → Nat) : Nat → Nat := fun p => W (p / 4) (p % 4)
theorem turnK_word {t : Nat → Nat} (h : IsWord t) : IsWord (turnK t) := fun i _ => h _ (by omega)
theorem subK_word {t : Nat → Nat} (h : IsWord t) : IsWord (subK t) := fun i hi => subN_lt (h i hi)
theorem conN_lt (i : Int) : conN i < 256 := by have := conI_bd i; have := conN_is i; omega
theorem oneK_word {n : Nat} (h : n < 256) : IsWord (oneK n) := fun j _ => by unfold oneK; split <;> omega
theorem xorW_word {f g : Nat → Nat} (hf : IsWord f) (hg : IsWord g) : IsWord (xorK f g) := fun j hj => xor_lt (hf j hj) (hg j hj)
theorem tnK_word {t : Nat → Nat} (N k : Nat) (h : IsWord t) : IsWord (tnK N k t) := by
  unfold tnK; split
  · exact xorW_word (subK_word (turnK_word h)) (oneK_word (conN_lt _))
  · split
    · exact subK_word h
    · exact h
theorem newW_word {N : Nat} {g : Nat → Nat} {W : Nat → Nat → Nat} {k : Nat} (hg : ∀ i, i < 4 * N → g i < 256) (hW : ∀ i, IsWord (W i)) : IsWord (newW N g W k) := by
  unfold newW; split
  · intro j hj; exact hg _ (by omega)
  · exact xorW_word (hW _) (tnK_word _ _ (hW _))
theorem wdTo_word {N : Nat} {g : Nat → Nat} (hg : ∀ i, i < 4 * N → g i < 256) : ∀ k i, IsWord (wdTo N g k i)
  | 0, _ => fun _ _ => by unfold wdTo; omega
  | k + 1, i => by
    show IsWord (if i = k then newW N g (wdTo N g k) k else wdTo N g k i)
    split
    · exact newW_word hg (wdTo_word hg k)
    · exact wdTo_word hg k i
theorem wdTo_next (N : Nat) (g : Nat → Nat) (k i : Nat) : wdTo N g (k + 1) i = if i = k then newW N g (wdTo N g k) k else wdTo N g k i := rfl
/-- A word, once it is made, stays. -/
theorem wdTo_stays (N : Nat) (g : Nat → Nat) {i : Nat} : ∀ {k m : Nat}, i < k → k ≤ m → wdTo N g m i = wdTo N g k i
  | k, m, h1, h2 => by
    induction m with
    | zero => omega
    | succ m ih =>
      rcases (show k = m + 1 ∨ k ≤ m by omega) with rfl | h
      · rfl
      · rw [wdTo_next, if_neg (by omega)]; exact ih h
theorem flat_start (M N : Nat) (g : Nat → Nat) : mk M (flat (wdTo N g 0)) = mk M zeroK := rfl
theorem flat_step (M N : Nat) (g : Nat → Nat) (k : Nat) : mk M (put (flat (wdTo N g k)) (4 * k) 4 (newW N g (wdTo N g k) k)) = mk M (flat (wdTo N g (k + 1))) := mk_ext fun p _ => by
  unfold put flat
  rw [wdTo_next]
  by_cases h : 4 * k ≤ p ∧ p < 4 * k + 4
  · rw [if_pos h, if_pos (show p / 4 = k by omega), show p % 4 = p - 4 * k by omega]
  · rw [if_neg h, if_neg (by omega)]
theorem flat_word (W : Nat → Nat → Nat) (i : Nat) : ∀ j, j < 4 → flat W (4 * i + j) = W i j := fun j hj => by
  unfold flat; rw [show (4 * i + j) / 4 = i by omega, show (4 * i + j) % 4 = j by omega]
theorem newW_key {N : Nat} (g : Nat → Nat) (W : Nat → Nat → Nat) {k : Nat} (h : k < N) : newW N g W k = fun j => g (4 * k + j) := by unfold newW; rw [if_pos h]
theorem newW_more {N : Nat} (g : Nat → Nat) (W : Nat → Nat → Nat) {k : Nat} (h : ¬ k < N) : newW N g W k = xorK (W (k - N)) (tnK N k (W (k - 1))) := by unfold newW; rw [if_neg h]
theorem tnK_turn {N k : Nat} (t : Nat → Nat) (h : k % N = 0) : tnK N k t = xorK (subK (turnK t)) (oneK (conN (k / N : Nat))) := by unfold tnK; rw [if_pos h]
theorem tnK_sub {N k : Nat} (t : Nat → Nat) (h : ¬ k % N = 0) (h8 : N = 8 ∧ k % 8 = 4) : tnK N k t = subK t := by unfold tnK; rw [if_neg h, if_pos h8]
theorem tnK_same {N k : Nat} (t : Nat → Nat) (h : ¬ k % N = 0) (h8 : ¬ (N = 8 ∧ k % 8 = 4)) : tnK N k t = t := by unfold tnK; rw [if_neg h, if_neg h8]
/-- The round keys of a key of N words. -/
def rkS (N : Nat) (g : Nat → Nat) : Nat → Nat → Nat := fun i j => flat (wdTo N g (4 * N + 28)) (i * 16 + j)
theorem rkS_key {N : Nat} {g : Nat → Nat} (hg : ∀ i, i < 4 * N → g i < 256) (i : Nat) : IsKey (rkS N g i) := fun j _ => wdTo_word hg _ _ _ (by omega)
end Go.Proofs.Ytklnnmlegagfoaa

/- The contract of package cipher's turn: it answers what the word ahead adds, and writes nothing that was there. Conditions: the word's bytes are bytes; a key has at least one word. -/
namespace Go.Proofs.Ytklnnmlegagfoaa
open Go.ChangeShapes Go.WideShapes Go.ChangeAt Go.RowKit

theorem subWord_k (f : Nat → Nat) (hf : IsWord f) (w : World) : Calls Try.prog 77 #[.agg (cellsOf .u8 (mk 4 f))] w fun e w' => e = .returned (.agg (cellsOf .u8 (mk 4 (subK f)))) ∧ Below w.heap.size w w' := SubWord_any f hf w
theorem call_rotate (args : Array Value) (w : World) : (callFunc 78 args).run Try.prog w = .ok (.enter 78 args) w := by simp [go_sem]
theorem call_subword (args : Array Value) (w : World) : (callFunc 77 args).run Try.prog w = .ok (.enter 77 args) w := by simp [go_sem]
theorem call_constant (args : Array Value) (w : World) : (callFunc 79 args).run Try.prog w = .ok (.enter 79 args) w := by simp [go_sem]
theorem call_add (args : Array Value) (w : World) : (callFunc 71 args).run Try.prog w = .ok (.enter 71 args) w := by simp [go_sem]
theorem quiet_int_quo {o : Oper} {a : Act} {C : World → Prop} {K : Act → Prop} (x y : Operand) (ho : o.op = .binOp .quo 3 x y 3) (i j r : Int) (hx : a.eval x = .int .i64 i) (hy : a.eval y = .int .i64 j) (hj : j ≠ 0)
    (h : IntKind.i64.wrap (i.tdiv j) = r) (hk : K (a.put o.dst (.int .i64 r))) : o.quiet Try.prog a C K := by
  refine quiet_value _ (fun w _ => ?_) hk
  unfold execOp
  simp only [ho, hx, hy]
  simp [go_sem, h, hj]
attribute [local irreducible] subK turnK xorK oneK conN

set_option maxRecDepth 100000 in
set_option maxHeartbeats 2000000 in
theorem turn_any (f : Nat → Nat) (hf : IsWord f) (i n : Nat) (hn : 0 < n) (hn2 : n < 1000) (hi : i < 4294967296) (w : World) :
    Calls Try.prog 72 #[.agg (cellsOf .u8 (mk 4 f)), .int .i64 i, .int .i64 n] w fun e w' => e = .returned (.agg (cellsOf .u8 (mk 4 (tnK n i f)))) ∧ Below w.heap.size w w' := by
  have nz2 : ¬ ((n : Int) = 0) := by omega
  have q0 : IntKind.i64.wrap ((i : Int).tdiv (n : Int)) = ((i / n : Nat) : Int) := by
    rw [Int.tdiv_eq_ediv_of_nonneg (by omega)]
    have h1 : i / n ≤ i := Nat.div_le_self _ _
    rw [show (i : Int) / (n : Int) = ((i / n : Nat) : Int) by simp]
    generalize i / n = q at *
    exact IntWalk.i64_in _ (by omega)
  have A1 := (IntBlk.new w .u8 80 (mk 4 f)).alloc (.cells (cellsOf .u8 (mk 4 zeroK)) 80)
  have Z1 := blk_two w .u8 80 (mk 4 zeroK) (.cells (cellsOf .u8 (mk 4 f)) 80)
  have L1 := below_two w (.cells (cellsOf .u8 (mk 4 f)) 80) (.cells (cellsOf .u8 (mk 4 zeroK)) 80)
  have HA := Lib.hid A1
  have HZ := Lib.hid Z1
  have HL := Lib.hid L1
  clear A1 Z1 L1
  by_cases h0 : i % n = 0
  · have t0 : ((i : Int) % (n : Int) == 0) = true := by
      have : (i : Int) % (n : Int) = ((i % n : Nat) : Int) := by simp
      rw [this, h0]; rfl
    rw [tnK_turn f h0]
    have k1 := turnK_word hf
    have k2 := subK_word k1
    have k3 := oneK_word (conN_lt ((i / n : Nat) : Int))
    clear h0
    go_enter Try.func72, Try.ntmps72
    go_wp2
    change Code.wp _ _ _ _ ((w.alloc (.cells (cellsOf .u8 (mk 4 f)) 80)).alloc (.cells (cellsOf .u8 (mk 4 zeroK)) 80))
    have BA := HA.out
    have BZ := HZ.out
    have BL := HL.out
    clear HA HZ HL
    generalize (w.alloc (.cells (cellsOf .u8 (mk 4 f)) 80)).alloc (.cells (cellsOf .u8 (mk 4 zeroK)) 80) = W0 at *
    have AC := Lib.hid (fun (w' : World) (h : Below W0.heap.size W0 w') => BA.below h BA.lt)
    have ZC := Lib.hid (fun (w' : World) (h : Below W0.heap.size W0 w') => BZ.below h BZ.lt)
    have LC := Lib.hid (fun (w' : World) (h : Below W0.heap.size W0 w') => BL.trans (h.mono BL.size))
    clear BA BZ BL
    refine wp_region_class_tail 8 (fun w' => Below W0.heap.size W0 w') (by kernel_rfl) (by kernel_rfl) ((Below.refl _ _).drew) ?_
    simp only [List.take_succ_cons, List.take_zero, List.drop_succ_cons, List.drop_zero]
    iterate 8 (first
      | go_big_quiet_skip
      | (go_big_quiet_want
         first
           | (go_big_quiet_op; go_big_quiet_on)
           | ((first
               | (refine quiet_word_load _ rfl w.heap.size f rfl AC.out ?_)
               | (refine quiet_int_quo _ _ rfl (i : Int) (n : Int) ((i / n : Nat) : Int) rfl rfl nz2 q0 ?_)
               | (refine quiet_word _ _ _ rfl 78 rfl f rfl (turnK f) call_rotate (class_of (Rotate_any f)) ?_)
               | (refine quiet_word _ _ _ rfl 77 rfl (turnK f) rfl (subK (turnK f)) call_subword (class_of (subWord_k _ k1)) ?_)
               | (refine quiet_int _ _ _ rfl 79 rfl ((i / n : Nat) : Int) rfl _ call_constant (class_of (Constant_any ((i / n : Nat) : Int))) ?_)
               | (refine quiet_words _ _ _ _ rfl 71 rfl (subK (turnK f)) rfl (oneK (conN ((i / n : Nat) : Int))) rfl _ call_add (class_of (add_any _ _ k2 k3)) ?_)); go_simp; go_big_quiet_on)))
    refine wpQuiet_nil ?_
    intro w1 hw1
    have HZ := Lib.hid (ZC.out _ hw1)
    have HL := Lib.hid (LC.out _ hw1); clear hw1 AC ZC LC
    go_wp2_with (refine wpList_store_row rfl 80 _ _ rfl (w.heap.size + 1) _ rfl rfl 80 (cellsOf .u8 (mk 4 zeroK)) HZ.out (wordSize _) (by rw [cellsOf_size, cellsOf_size, mk_len, mk_len]) (cellsOf_one _ _) ?_)
    refine bodyPost_ret (results_cell_row rfl _ _ (w.heap.size + 1) 80 (cellsOf .u8 (mk 4 (xorK (subK (turnK f)) (oneK (conN ((i / n : Nat) : Int)))))) (0, 0) _ rfl (HZ.out.setRow .u8 (mk 4 (xorK (subK (turnK f)) (oneK (conN ((i / n : Nat) : Int)))))) wordUnder rfl (wordSize _)) rfl ⟨rfl, below_setRow HL.out (by omega) _⟩
  · have t0 : ((i : Int) % (n : Int) == 0) = false := by
      have : (i : Int) % (n : Int) = ((i % n : Nat) : Int) := by simp
      rw [this]; simp only [beq_eq_false_iff_ne, ne_eq]; omega
    by_cases h8 : n = 8 ∧ i % 8 = 4
    · rw [tnK_sub f h0 h8]
      have n8 : ((n : Int) == 8) = true := by simp; omega
      have i8 : ((i : Int) % 8 == 4) = true := by simp; omega
      clear h0 h8
      go_enter Try.func72, Try.ntmps72
      go_wp2_with (first
        | (refine wpList_load_row rfl 80 _ rfl w.heap.size rfl 80 (cellsOf .u8 (mk 4 f)) (0, 0) _ HA.out wordUnder rfl (wordSize f) ?_)
        | fail)
      refine (subWord_k f hf _).mono ?_
      rintro e w1 ⟨rfl, hb⟩
      have HZ1 := Lib.hid (HZ.out.below hb HZ.out.lt)
      have HL1 := Lib.hid (HL.out.trans (hb.mono HL.out.size))
      clear hb HA HZ HL
      go_wp2_with (refine wpList_store_row rfl 80 _ _ rfl (w.heap.size + 1) _ rfl rfl 80 (cellsOf .u8 (mk 4 zeroK)) HZ1.out (wordSize _) (by rw [cellsOf_size, cellsOf_size, mk_len, mk_len]) (cellsOf_one _ _) ?_)
      refine bodyPost_ret (results_cell_row rfl _ _ (w.heap.size + 1) 80 (cellsOf .u8 (mk 4 (subK f))) (0, 0) _ rfl (HZ1.out.setRow .u8 (mk 4 (subK f))) wordUnder rfl (wordSize _)) rfl ⟨rfl, below_setRow HL1.out (by omega) _⟩
    · rw [tnK_same f h0 h8]
      by_cases n8 : n = 8
      · have b8 : ((n : Int) == 8) = true := by simp; omega
        have i8 : ((i : Int) % 8 == 4) = false := by simp; omega
        clear h0 h8 n8
        go_enter Try.func72, Try.ntmps72
        go_wp2_with (first
          | (refine wpList_load_row rfl 80 _ rfl w.heap.size rfl 80 (cellsOf .u8 (mk 4 f)) (0, 0) _ HA.out wordUnder rfl (wordSize f) ?_)
          | (refine wpList_store_row rfl 80 _ _ rfl (w.heap.size + 1) _ rfl rfl 80 (cellsOf .u8 (mk 4 zeroK)) HZ.out (wordSize _) (by rw [cellsOf_size, cellsOf_size, mk_len, mk_len]) (cellsOf_one _ _) ?_))
        refine bodyPost_ret (results_cell_row rfl _ _ (w.heap.size + 1) 80 (cellsOf .u8 (mk 4 f)) (0, 0) _ rfl (HZ.out.setRow .u8 (mk 4 f)) wordUnder rfl (wordSize _)) rfl ⟨rfl, below_setRow HL.out (by omega) _⟩
      · have b8 : ((n : Int) == 8) = false := by simp; omega
        clear h0 h8 n8
        go_enter Try.func72, Try.ntmps72
        go_wp2_with (first
          | (refine wpList_load_row rfl 80 _ rfl w.heap.size rfl 80 (cellsOf .u8 (mk 4 f)) (0, 0) _ HA.out wordUnder rfl (wordSize f) ?_)
          | (refine wpList_store_row rfl 80 _ _ rfl (w.heap.size + 1) _ rfl rfl 80 (cellsOf .u8 (mk 4 zeroK)) HZ.out (wordSize _) (by rw [cellsOf_size, cellsOf_size, mk_len, mk_len]) (cellsOf_one _ _) ?_))
        refine bodyPost_ret (results_cell_row rfl _ _ (w.heap.size + 1) 80 (cellsOf .u8 (mk 4 f)) (0, 0) _ rfl (HZ.out.setRow .u8 (mk 4 f)) wordUnder rfl (wordSize _)) rfl ⟨rfl, below_setRow HL.out (by omega) _⟩
end Go.Proofs.Ytklnnmlegagfoaa

/- Slices of keys, and of bytes, that come in as arguments, opened: functions from places to bytes. No condition. -/
namespace Go.Proofs.Ytklnnmlegagfoaa
open Go.ChangeShapes Go.WideShapes Go.ChangeAt Go.RowKit

set_option maxRecDepth 100000 in
theorem bytes_of_row {H : Type} {enc : TypeId × Value → H} {P : Program} {W : World} {base fuel : Nat} {spare : Nat → Bool} {held : Bool} {t e : TypeId} {n : Nat} {cs : List Value} {x : DataW H × List MemPlace}
    (ht : P.underlying t = some (.array n e)) (he : P.underlying e = some (.int .u8)) (hc : P.cellsOf e = 1) (h : DataW.trod enc P W base spare held fuel t cs = some x) : ∀ i, i < n → ∃ a : Nat, a < 256 ∧ cs[i]? = some (.int .u8 a) := by
  obtain ⟨xs, m, rfl, hx, hlen, hxn, hel⟩ := DataW.trod_array ht h
  intro i hi
  have hi2 := hel i hi
  rw [hc, Nat.mul_one] at hi2
  have hlt : i < xs.length := by omega
  rw [List.getElem?_eq_getElem hlt] at hi2
  obtain ⟨a, ha, _, hw⟩ := DataW.trod_int he hi2
  have hb := bounds_u8 hw
  refine ⟨a.toNat, by omega, ?_⟩
  rw [show ((a.toNat : Nat) : Int) = a by omega]
  have h0 : (List.take 1 (List.drop i cs))[0]? = some (.int .u8 a) := by rw [ha]; rfl
  rw [List.getElem?_take_of_lt (by omega), List.getElem?_drop] at h0
  simpa using h0
set_option maxRecDepth 100000 in
theorem open_keys {H : Type} {enc : TypeId × Value → H} {W : World} {r : Reach} {b0 base : Nat} {spare : Nat → Bool} {held : Bool} {v : Value} {d : DataW H} {p : List MemPlace}
    (hv : Value.okWide Try.prog W r b0 44 v) (h : DataW.Trod enc Try.prog W base spare held 44 v d p) :
    ∃ (q : Option Addr) (n cap : Nat) (R : Nat → Nat → Nat), v = .slice q n cap ∧ (∀ i, i < n → IsKey (R i)) ∧ KeysAt W q n R := by
  have ht : Try.prog.underlying 44 = some (.slice 25) := Try.underlying44
  have ck : Try.prog.cellsOf 25 = 16 := by kernel_rfl
  obtain ⟨q, n, cap, rfl⟩ := okWide_slice ht hv
  obtain ⟨fuel, hf⟩ := h
  have hd : (Value.cells (.slice q n cap)).toList = [.slice q n cap] := rfl
  rw [hd] at hf
  rcases Deep.open_slice ht hf with ⟨h0, _⟩ | ⟨a, len, cap', m, k, D, Pl, h0, hb, hl, hm, hmm, _, hx⟩
  · simp only [List.cons.injEq, Value.slice.injEq, and_true] at h0
    obtain ⟨rfl, rfl, rfl⟩ := h0
    exact ⟨none, 0, 0, fun _ => zeroK, rfl, fun i hi => absurd hi (Nat.not_lt_zero _), .inl rfl⟩
  · simp only [List.cons.injEq, Value.slice.injEq, and_true] at h0
    obtain ⟨rfl, rfl, rfl⟩ := h0
    rw [ck] at hx
    by_cases h0 : n = 0
    · exact ⟨some a, n, cap, fun _ => zeroK, rfl, fun i hi => absurd hi (by omega), .inl h0⟩
    · have hnm : n ≤ m := by rw [hmm]; split <;> omega
      have each : ∀ i, i < n → ∀ j, j < 16 → ∃ x : Nat, x < 256 ∧ W.cell? (a.add (i * 16 + j)) = some (.int .u8 x) := fun i hi j hj => by
        obtain ⟨cs', h1, h2⟩ := hx i (by omega)
        obtain ⟨_, hlen, hc⟩ := World.cells?_some h1
        obtain ⟨x, hx1, hx2⟩ := bytes_of_row keyUnder Try.underlying5 (by kernel_rfl) h2 j hj
        refine ⟨x, hx1, ?_⟩
        have := hc j hj
        rw [Deep.add_add] at this
        rw [this, hx2]
      obtain ⟨B, o, spot⟩ := a
      obtain ⟨x0, _, hx0⟩ := each 0 (by omega) 0 (by omega)
      have hspot : spot = none := by simpa [Addr.add] using World.cell?_spot hx0
      subst hspot
      simp only [add_plain] at each hx0
      refine ⟨_, n, cap, fun i j => byteAt W B (o + (i * 16 + j)), rfl, fun i hi j hj => ?_, .inr ⟨B, o, rfl, block_lt_of_cell hx0, fun i hi j hj => ?_⟩⟩
      · obtain ⟨x, hx1, hx2⟩ := each i hi j hj
        show byteAt W B (o + (i * 16 + j)) < 256
        rw [byteAt_is hx2]; exact hx1
      · obtain ⟨x, hx1, hx2⟩ := each i hi j hj
        show W.cell? ⟨B, o + i * 16 + j, none⟩ = some (.int .u8 (byteAt W B (o + (i * 16 + j)) : Nat))
        rw [Nat.add_assoc, byteAt_is hx2]; exact hx2

end Go.Proofs.Ytklnnmlegagfoaa

/- The contract of package cipher's schedule: it answers a slice of all words of a key, in memory of its own, and writes nothing that was there. Conditions: the key has four or eight words; its bytes are bytes. -/
namespace Go.Proofs.Ytklnnmlegagfoaa
open Go.ChangeShapes Go.WideShapes Go.ChangeAt Go.RowKit

theorem wordsUnder : Try.prog.underlying 79 = some (.slice 80) := Try.underlying79
theorem wordInfo1 : (Try.prog.info? 80).map (·.size) = some 4 := by kernel_rfl
theorem wordZero1 : (Try.prog.info? 80).bind (·.zero) = some (.agg (cellsOf .u8 (mk 4 zeroK))) := by kernel_rfl
theorem wordBytes : (Try.prog.info? 80).map (·.bytes) = some 4 := by kernel_rfl
theorem wpList_make_words {ops : Array Oper} {rest : List Oper} {o : Oper} {a : Act} {w : World} {Q : Exit → Act → World → Prop} (hgd : o.guard = none) (x y : Operand) (ho : o.op = .makeSlice 79 x y) (M : Nat) (hM : M ≤ 1000) (hx : a.eval x = .int .i64 M) (hy : a.eval y = .int .i64 M)
    (h : wpList Try.prog ops Q rest (a.put o.dst (.slice (some ⟨w.heap.size, 0, none⟩) M M)) (w.alloc (.cells (cellsOf .u8 (mk (M * 4) zeroK)) 80))) : wpList Try.prog ops Q (o :: rest) a w :=
  wpList_plain hgd fun _ hK => by
    have hi := wordInfo1
    have hz := wordZero1
    have hb := wordBytes
    cases hq : Try.prog.info? 80 with
    | none => rw [hq] at hi; simp at hi
    | some i =>
      rw [hq] at hi hz hb
      have hsz : i.size = 4 := by simpa using hi
      have hzz : i.zero = some (.agg (cellsOf .u8 (mk 4 zeroK))) := by simpa using hz
      have hby : i.bytes = 4 := by simpa using hb
      have e := run_make (P := Try.prog) w 79 80 i _ wordsUnder hq hzz .i64 .i64 M M (by omega) (by omega) (by rw [hby]; omega) (by omega)
      have hc : (Value.agg (cellsOf .u8 (mk 4 zeroK))).cells = cellsOf .u8 (mk 4 zeroK) := rfl
      rw [hsz, Int.toNat_natCast, made_zero hc (by omega)] at e
      unfold Oper.wp execOp
      simp only [ho]
      simp [hx, hy, e]
      exact hK _ _ h
theorem flat_steps (M N : Nat) (g : Nat → Nat) (k : Nat) : mk M (put (flat (wdTo N g k)) (k * 4) 4 (newW N g (wdTo N g k) k)) = mk M (flat (wdTo N g (k + 1))) := by rw [Nat.mul_comm k 4]; exact flat_step M N g k
theorem flat_cells {w : World} {B M : Nat} {t : TypeId} {W : Nat → Nat → Nat} (h : IntBlk w B .u8 t (mk (M * 4) (flat W))) {a : Nat} (ha : a < M) : Cells w B (a * 4) 4 (W a) := fun j hj => by
  have := h.cells (o := a * 4) (n := 4) (by omega) j hj
  rw [this]
  show some (Value.int .u8 (flat W (a * 4 + j) : Nat)) = _
  rw [Nat.mul_comm a 4, flat_word W a j hj]
theorem quiet_int_sub {o : Oper} {a : Act} {C : World → Prop} {K : Act → Prop} (x y : Operand) (ho : o.op = .binOp .sub 3 x y 3) (i j r : Int) (hx : a.eval x = .int .i64 i) (hy : a.eval y = .int .i64 j)
    (h : IntKind.i64.wrap (i - j) = r) (hk : K (a.put o.dst (.int .i64 r))) : o.quiet Try.prog a C K := by
  refine quiet_value _ (fun w _ => ?_) hk
  unfold execOp
  simp only [ho, hx, hy]
  simp [go_sem, h]
theorem quiet_turn {o : Oper} {a : Act} {C : World → Prop} {K : Act → Prop} (x y z u : Operand) (ts : Array TypeId) (ho : o.op = .call { callee := .value x, args := #[y, z, u], argTypes := ts }) (hx : a.eval x = .func (.func 72) #[] #[])
    (f : Nat → Nat) (hy : a.eval y = .agg (cellsOf .u8 (mk 4 f))) (i j : Int) (hz : a.eval z = .int .i64 i) (hu : a.eval u = .int .i64 j) (r : Nat → Nat)
    (hc : ∀ w, C w → Calls Try.prog 72 #[.agg (cellsOf .u8 (mk 4 f)), .int .i64 i, .int .i64 j] w fun e w' => e = .returned (.agg (cellsOf .u8 (mk 4 r))) ∧ C w') (hk : K (a.put o.dst (.agg (cellsOf .u8 (mk 4 r))))) : o.quiet Try.prog a C K :=
  quiet_calls x #[y, z, u] ts ho 72 _ _ hx (by simp only [List.map_toArray, List.map_cons, List.map_nil, hy, hz, hu]) (fun w => by simp [go_sem]) hc hk
attribute [local irreducible] wdTo newW tnK flat xorK

set_option maxRecDepth 100000 in
set_option maxHeartbeats 4000000 in
theorem schedule_any (p : Option Addr) (n cap N M : Nat) (g : Nat → Nat) (hn : n = 4 * N) (hN : N = 4 ∨ N = 8) (hM : M = 4 * N + 28) (hcap : n ≤ cap) (hg : ∀ i, i < n → g i < 256) (w : World) (hp : BytesAt w p n g) :
    Calls Try.prog 62 #[.slice p n cap] w fun e w' => e = .returned (.slice (some ⟨w.heap.size, 0, none⟩) M M) ∧ IntBlk w' w.heap.size .u8 80 (mk (M * 4) (flat (wdTo N g M))) ∧ Below w.heap.size w w' := by
  have hgw : ∀ i, i < 4 * N → g i < 256 := fun i hi => hg i (by omega)
  have q4 : (n : Int) / 4 = (N : Int) := by omega
  have qM : 4 * (N : Int) + 28 = (M : Int) := by omega
  have hN8 : N ≤ 8 := by omega
  have hN0 : 0 < N := by omega
  have hM1 : M ≤ 1000 := by omega
  rcases hp with hp | ⟨KB, ko, rfl, hKB, hc⟩
  · omega
  have HN := Lib.hid (And.intro hn hM)
  clear hn hM
  go_enter Try.func62, Try.ntmps62
  go_wp2_with (first
    | (refine wpList_make_words rfl _ _ rfl M hM1 rfl rfl ?_)
    | fail)
  clear q4 qM
  go_loopw [15] (fun v15 wr => ∃ k : Nat, k ≤ M ∧ v15 = .int .i64 k ∧ IntBlk wr w.heap.size .u8 80 (mk (M * 4) (flat (wdTo N g k))) ∧ Below w.heap.size w wr) (fun v15 _ => M - (intOf v15).toNat)
  case atStart => exact ⟨0, by omega, rfl, by unfold wdTo flat; exact IntBlk.new w .u8 80 (mk (M * 4) zeroK), (Below.refl _ _).alloc (Nat.le_refl _) _⟩
  case round =>
    obtain ⟨k, hk, rfl, hd, hw⟩ := hrel
    have HD := Lib.hid hd
    have HW := Lib.hid hw
    by_cases hlt : k < M
    · have t1 : decide ((k : Int) < (M : Int)) = true := by simp; omega
      by_cases hkN : k < N
      · have t2 : decide ((k : Int) < (N : Int)) = true := by simp; omega
        have hn := HN.out.1
        have hb4 : 4 * k + 4 ≤ n := by omega
        have hne : ¬ (cap = 4 * k) := by omega
        have hfit : 4 * k + 4 ≤ M * 4 := by omega
        have CK : Cells wr KB (ko + 4 * k) 4 (fun j => g (4 * k + j)) := fun j hj => by
          have := (hc.below hw hKB) (4 * k + j) (by omega)
          rw [show ko + 4 * k + j = ko + (4 * k + j) by omega]; exact this
        have HV := Lib.hid (newW_key g (wdTo N g k) hkN)
        have CC := Lib.hid CK
        clear hd hw hn CK
        have e1 : (k : Int) < M := by omega
        have e2 : (0 : Int) ≤ k := by omega
        have e3 : IntKind.i64.wrap (4 * (k : Int)) = 4 * (k : Int) := IntWalk.i64_in _ (by omega)
        have e4 : (0 : Int) ≤ 4 * (k : Int) := by omega
        have e5 : 4 * (k : Int) ≤ n := by omega
        have e6 : (4 * (k : Int)).toNat = 4 * k := by omega
        go_wp2
        refine wp_region_still_tail 8 (by kernel_rfl) (by kernel_rfl) ?_
        simp only [List.take_succ_cons, List.take_zero, List.drop_succ_cons, List.drop_zero]
        change wpStill _ _ wr.drew (fun a' => wpList _ _ _ _ a' wr.drew) _ _
        iterate 8 still_step
        refine wpStill_nil ?_
        refine wpList_copy_part rfl _ _ _ _ rfl 5 bytesUnder byteInfo w.heap.size (k * 4) 4 4 KB (ko + 4 * k) (n - 4 * k) (cap - 4 * k) 4 (M * 4) (flat (wdTo N g k)) (fun j => g (4 * k + j)) rfl rfl 80 HD.out.drew (by omega) (Nat.min_eq_right (by omega)).symm CC.out ?_
        have HD2 := Lib.hid (HD.out.drew.setRow .u8 (mk (M * 4) (put (flat (wdTo N g k)) (k * 4) 4 (fun j => g (4 * k + j)))))
        have HW2 := Lib.hid (below_setRow HW.out.drew (g := w.heap.size) (Nat.le_refl _) (cellsOf .u8 (mk (M * 4) (put (flat (wdTo N g k)) (k * 4) 4 (fun j => g (4 * k + j))))))
        clear HD HW CC
        go_wp2
        go_roundw
        case rel => exact ⟨k + 1, by omega, by go_num, by rw [← flat_steps, HV.out]; exact HD2.out, HW2.out⟩
        case measure => simp [intOf]; omega
      · have t2 : decide ((k : Int) < (N : Int)) = false := by simp; omega
        obtain ⟨a, hna⟩ : ∃ a, a = k - N := ⟨_, rfl⟩
        obtain ⟨b, hnb⟩ : ∃ b, b = k - 1 := ⟨_, rfl⟩
        have s1 : IntKind.i64.wrap ((k : Int) - N) = (a : Int) := by rw [IntWalk.i64_in _ (by omega)]; omega
        have s2 : IntKind.i64.wrap ((k : Int) - 1) = (b : Int) := by rw [IntWalk.i64_in _ (by omega)]; omega
        have haM : a < M := by omega
        have hbM : b < M := by omega
        have ka := wdTo_word hgw k a
        have kb := wdTo_word hgw k b
        have kt := tnK_word N k kb
        have CA := Lib.hid (fun (w' : World) (h : Below wr.heap.size wr w') => flat_cells (hd.below h hd.lt) haM)
        have CB := Lib.hid (fun (w' : World) (h : Below wr.heap.size wr w') => flat_cells (hd.below h hd.lt) hbM)
        have DC := Lib.hid (fun (w' : World) (h : Below wr.heap.size wr w') => hd.below h hd.lt)
        have LC := Lib.hid (fun (w' : World) (h : Below wr.heap.size wr w') => hw.trans (h.mono hw.size))
        have HV := Lib.hid (show newW N g (wdTo N g k) k = xorK (wdTo N g k a) (tnK N k (wdTo N g k b)) by rw [newW_more g (wdTo N g k) hkN, hna, hnb])
        clear hd hw HD HW hna hnb
        go_wp2
        refine wp_region_class_tail 18 (fun w' => Below wr.heap.size wr w') (by kernel_rfl) (by kernel_rfl) ((Below.refl _ _).drew) ?_
        simp only [List.take_succ_cons, List.take_zero, List.drop_succ_cons, List.drop_zero]
        iterate 18 (first
          | go_big_quiet_skip
          | (go_big_quiet_want
             first
               | (go_big_quiet_op; go_big_quiet_on)
               | ((first
                   | (refine quiet_int_sub _ _ rfl (k : Int) (N : Int) (a : Int) rfl rfl s1 ?_)
                   | (refine quiet_int_sub _ _ rfl (k : Int) 1 (b : Int) rfl rfl s2 ?_)
                   | (refine quiet_elem 79 80 4 _ _ rfl wordsUnder wordInfo1 w.heap.size 0 M M a rfl rfl haM ?_)
                   | (refine quiet_elem 79 80 4 _ _ rfl wordsUnder wordInfo1 w.heap.size 0 M M b rfl rfl hbM ?_)
                   | (refine quiet_elem 79 80 4 _ _ rfl wordsUnder wordInfo1 w.heap.size 0 M M k rfl rfl hlt ?_)
                   | (refine quiet_load_part 80 _ rfl w.heap.size (a * 4) 4 (wdTo N g k a) rfl _ CA.out wordUnder rfl wordInfo1 ?_)
                   | (refine quiet_load_part 80 _ rfl w.heap.size (b * 4) 4 (wdTo N g k b) rfl _ CB.out wordUnder rfl wordInfo1 ?_)
                   | (refine quiet_turn _ _ _ _ _ rfl rfl (wdTo N g k b) rfl (k : Int) (N : Int) rfl rfl (tnK N k (wdTo N g k b)) (class_of (turn_any _ kb k N hN0 (by omega) (by omega))) ?_)
                   | (refine quiet_words _ _ _ _ rfl 71 rfl (wdTo N g k a) rfl (tnK N k (wdTo N g k b)) rfl _ call_add (class_of (add_any _ _ ka kt)) ?_)); go_simp; go_big_quiet_on)))
        refine wpQuiet_nil ?_
        intro w1 hw1
        have B1 := Lib.hid (DC.out _ hw1)
        have L1 := Lib.hid (LC.out _ hw1)
        clear hw1 CA CB DC LC
        refine wpList_store_part rfl 80 _ _ rfl rfl w.heap.size (k * 4) 4 (M * 4) (flat (wdTo N g k)) (xorK (wdTo N g k a) (tnK N k (wdTo N g k b))) rfl rfl 80 B1.out (by omega) wordInfo1 ?_
        have HD2 := Lib.hid (B1.out.setRow .u8 (mk (M * 4) (put (flat (wdTo N g k)) (k * 4) 4 (xorK (wdTo N g k a) (tnK N k (wdTo N g k b))))))
        have HW2 := Lib.hid (below_setRow L1.out (g := w.heap.size) (Nat.le_refl _) (cellsOf .u8 (mk (M * 4) (put (flat (wdTo N g k)) (k * 4) 4 (xorK (wdTo N g k a) (tnK N k (wdTo N g k b)))))))
        clear B1 L1
        go_wp2
        go_roundw
        case rel => exact ⟨k + 1, by omega, by go_num, by rw [← flat_steps, HV.out]; exact HD2.out, HW2.out⟩
        case measure => simp [intOf]; omega
    · obtain rfl : k = M := by omega
      have t1 : decide ((k : Int) < (k : Int)) = false := by simp
      clear hd hw
      go_wp2
      go_ret
      exact ⟨rfl, HD.out, HW.out⟩
end Go.Proofs.Ytklnnmlegagfoaa

/- The contract of package cipher's Rounds: a key of 16 or 32 bytes has its round keys, in memory of its own; every other key none, and ErrKey; and nothing is written that was there. Condition: the key's bytes are bytes. -/
namespace Go.Proofs.Ytklnnmlegagfoaa
open Go.ChangeShapes Go.WideShapes Go.ChangeAt Go.RowKit

theorem wpList_make_keys {ops : Array Oper} {rest : List Oper} {o : Oper} {a : Act} {w : World} {Q : Exit → Act → World → Prop} (hgd : o.guard = none) (x y : Operand) (ho : o.op = .makeSlice 44 x y) (M : Nat) (hM : M ≤ 1000) (hx : a.eval x = .int .i64 M) (hy : a.eval y = .int .i64 M)
    (h : wpList Try.prog ops Q rest (a.put o.dst (.slice (some ⟨w.heap.size, 0, none⟩) M M)) (w.alloc (.cells (cellsOf .u8 (mk (M * 16) zeroK)) 25))) : wpList Try.prog ops Q (o :: rest) a w :=
  wpList_plain hgd fun _ hK => by
    have hi := keyInfo
    have hz : (Try.prog.info? 25).bind (·.zero) = some (.agg (cellsOf .u8 (mk 16 zeroK))) := by kernel_rfl
    have hb : (Try.prog.info? 25).map (·.bytes) = some 16 := by kernel_rfl
    cases hq : Try.prog.info? 25 with
    | none => rw [hq] at hi; simp at hi
    | some i =>
      rw [hq] at hi hz hb
      have hsz : i.size = 16 := by simpa using hi
      have hzz : i.zero = some (.agg (cellsOf .u8 (mk 16 zeroK))) := by simpa using hz
      have hby : i.bytes = 16 := by simpa using hb
      have e := run_make (P := Try.prog) w 44 25 i _ keysUnder hq hzz .i64 .i64 M M (by omega) (by omega) (by rw [hby]; omega) (by omega)
      have hc : (Value.agg (cellsOf .u8 (mk 16 zeroK))).cells = cellsOf .u8 (mk 16 zeroK) := rfl
      rw [hsz, Int.toNat_natCast, made_zero hc (by omega)] at e
      unfold Oper.wp execOp
      simp only [ho]
      simp [hx, hy, e]
      exact hK _ _ h
/-- The first 4 k bytes of a row, noughts behind. -/
def rdTo (F : Nat → Nat) (k : Nat) : Nat → Nat := fun p => if p < 4 * k then F p else 0
theorem rdTo_zero (M : Nat) (F : Nat → Nat) : mk M (rdTo F 0) = mk M zeroK := mk_ext fun p _ => by unfold rdTo zeroK; rw [if_neg (by omega)]
theorem rdTo_step (M : Nat) (W : Nat → Nat → Nat) (k : Nat) : mk M (put (rdTo (flat W) k) (4 * k) 4 (W k)) = mk M (rdTo (flat W) (k + 1)) := mk_ext fun p _ => by
  unfold put rdTo
  by_cases h : 4 * k ≤ p ∧ p < 4 * k + 4
  · rw [if_pos h, if_pos (by omega)]
    have := flat_word W k (p - 4 * k) (by omega)
    rw [show 4 * k + (p - 4 * k) = p by omega] at this
    exact this.symm
  · rw [if_neg h]
    by_cases l : p < 4 * k
    · rw [if_pos l, if_pos (by omega)]
    · rw [if_neg l, if_neg (by omega)]
theorem rdTo_all {M k : Nat} (F : Nat → Nat) (h : M = 4 * k) : mk M (rdTo F k) = mk M F := mk_ext fun p hp => by unfold rdTo; rw [if_pos (by omega)]
theorem rdTo_steps {M k o : Nat} (W : Nat → Nat → Nat) (ho : o = 4 * k) : mk M (put (rdTo (flat W) k) o 4 (W k)) = mk M (rdTo (flat W) (k + 1)) := by subst ho; exact rdTo_step M W k
theorem keysAt_row {w : World} {B T : Nat} {t : TypeId} {F : Nat → Nat} (h : IntBlk w B .u8 t (mk (T * 16) F)) : KeysAt w (some ⟨B, 0, none⟩) T (fun i j => F (i * 16 + j)) := .inr ⟨B, 0, rfl, h.lt, fun i hi j hj => by
  have := h.cells (o := i * 16) (n := 16) (by omega) j hj
  rw [Nat.zero_add]; exact this⟩

set_option maxHeartbeats 1000000 in
theorem Rounds_bad (p : Option Addr) (n cap : Nat) (h16 : n ≠ 16) (h32 : n ≠ 32) (w : World) :
    Calls Try.prog 49 #[.slice p n cap] w fun e w' => e = .returned (.tuple #[.slice none 0 0, .iface 34 (.int .i64 3)]) ∧ w = w' := by
  have t1 : ((n : Int) != 16) = true := by simp; omega
  have t2 : ((n : Int) != 32) = true := by simp; omega
  go_enter Try.func49, Try.ntmps49
  go_wp2
  go_ret2
  exact ⟨rfl, rfl⟩
attribute [local irreducible] wdTo flat rdTo

set_option maxRecDepth 100000 in
set_option maxHeartbeats 4000000 in
theorem Rounds_ok (p : Option Addr) (n cap N : Nat) (g : Nat → Nat) (hn : n = 4 * N) (hN : N = 4 ∨ N = 8) (hcap : n ≤ cap) (hg : ∀ i, i < n → g i < 256) (w : World) (hp : BytesAt w p n g) :
    Calls Try.prog 49 #[.slice p n cap] w fun e w' => ∃ D, e = .returned (.tuple #[.slice (some ⟨D, 0, none⟩) (N + 7) (N + 7), .nilIface]) ∧ KeysAt w' (some ⟨D, 0, none⟩) (N + 7) (rkS N g) ∧ Below w.heap.size w w' := by
  have hrk : (fun i j => flat (wdTo N g (4 * N + 28)) (i * 16 + j)) = rkS N g := rfl
  obtain ⟨M, hM⟩ : ∃ M, M = 4 * N + 28 := ⟨_, rfl⟩
  obtain ⟨T, hT⟩ : ∃ T, T = N + 7 := ⟨_, rfl⟩
  rw [← hM] at hrk
  rw [← hT]
  have qT : (M : Int) / 4 = (T : Int) := by omega
  have hT1 : T ≤ 1000 := by omega
  have HN := Lib.hid (show M = 4 * T by omega)
  have H5 := Lib.hid (show M < 1000 by omega)
  have SC := Lib.hid (schedule_any p n cap N M g hn hN hM hcap hg w hp)
  have t0 : n = 16 ∨ n = 32 := by omega
  have HR := Lib.hid hrk
  clear hrk hM hT hn
  go_enter Try.func49, Try.ntmps49
  rcases t0 with rfl | rfl
  all_goals
    go_wp2_with fail
    refine SC.out.mono ?_
    rintro e w1 ⟨rfl, hd, hb⟩
    have hs1 : w.heap.size < w1.heap.size := hd.lt
    go_wp2_with (first
      | (refine wpList_make_keys rfl _ _ rfl T hT1 rfl rfl ?_)
      | fail)
    have h0 := hd.alloc (.cells (cellsOf .u8 (mk (T * 16) zeroK)) 25)
    have h1 := IntBlk.new w1 .u8 25 (mk (T * 16) zeroK)
    have h2 := hb.alloc (show w.heap.size ≤ w1.heap.size by omega) (.cells (cellsOf .u8 (mk (T * 16) zeroK)) 25)
    have H0 := Lib.hid h0
    have H1 := Lib.hid h1
    have H2 := Lib.hid h2
    clear h0 h1 h2 hd hb SC qT hp
    go_loopw [25] (fun v25 wr => ∃ i : Nat, i ≤ M ∧ v25 = .int .i64 i ∧ IntBlk wr w.heap.size .u8 80 (mk (M * 4) (flat (wdTo N g M))) ∧ IntBlk wr w1.heap.size .u8 25 (mk (T * 16) (rdTo (flat (wdTo N g M)) i)) ∧ Below w.heap.size w wr) (fun v25 _ => M - (intOf v25).toNat)
    case' atStart => exact ⟨0, by omega, rfl, H0.out, by rw [rdTo_zero]; exact H1.out, H2.out⟩
    case' round =>
      clear H0 H1 H2
      obtain ⟨i, hi, rfl, hd, hr, hw⟩ := hrel
      by_cases hlt : i < M
      · have t1 : decide ((i : Int) < (M : Int)) = true := by simp; omega
        have hs2 : w1.heap.size < wr.heap.size := hr.lt
        have CW := Lib.hid (flat_cells hd hlt)
        have D1 := Lib.hid ((hd.alloc (.cells (cellsOf .u8 (mk 4 zeroK)) 80)).otherRow (C := wr.heap.size) (by omega) (cellsOf .u8 (mk 4 (wdTo N g M i))))
        have R1 := Lib.hid ((hr.alloc (.cells (cellsOf .u8 (mk 4 zeroK)) 80)).otherRow (C := wr.heap.size) (by omega) (cellsOf .u8 (mk 4 (wdTo N g M i))))
        have N1 := Lib.hid (IntBlk.new wr .u8 80 (mk 4 zeroK))
        have W1 := Lib.hid ((IntBlk.new wr .u8 80 (mk 4 zeroK)).setRow .u8 (mk 4 (wdTo N g M i)))
        have L1 := Lib.hid (below_setRow (hw.alloc (by omega) (.cells (cellsOf .u8 (mk 4 zeroK)) 80)) (g := wr.heap.size) (by omega) (cellsOf .u8 (mk 4 (wdTo N g M i))))
        clear hd hr hw
        have hMT := HN.out
        have e1 : (i : Int) / 4 < T := by omega
        have e2 : (0 : Int) ≤ (i : Int) / 4 := by omega
        have e3 : IntKind.i64.wrap ((i : Int) / 4) = (i : Int) / 4 := IntWalk.i64_in _ (by omega)
        have e4 : (i : Int).tmod 4 = (i : Int) % 4 := IntWalk.rem_in _ _ (by omega)
        have e5 : IntKind.i64.wrap ((i : Int) % 4 * 4) = (i : Int) % 4 * 4 := IntWalk.i64_in _ (by omega)
        have e6 : (0 : Int) ≤ (i : Int) % 4 * 4 := by omega
        have e7 : (i : Int) % 4 * 4 ≤ 16 := by omega
        obtain ⟨s, hs⟩ : ∃ s, s = ((i : Int) % 4 * 4).toNat := ⟨_, rfl⟩
        have e8 : ((i : Int) % 4 * 4).toNat = s := hs.symm
        have e9 : ((i : Int) / 4).toNat * 16 + s = 4 * i := by omega
        have e10 : ¬ (16 = s) := by omega
        have e11 : 4 ≤ 16 - s := by omega
        have e12 : 4 * i + 4 ≤ T * 16 := by omega
        clear hMT hs
        go_wp2_with (first
          | (refine wpList_load_part rfl 80 _ rfl w.heap.size (i * 4) 4 (wdTo N g M i) rfl _ CW.out wordUnder rfl wordInfo1 ?_)
          | (refine store_row_on rfl 80 _ _ rfl rfl wr.heap.size (cellsOf .u8 (mk 4 (wdTo N g M i))) rfl rfl 80 (cellsOf .u8 (mk 4 zeroK)) N1.out (wordSize _) (by rw [cellsOf_size, cellsOf_size, mk_len, mk_len]) (cellsOf_one _ _) ?_)
          | fail)
        change Code.wp _ _ _ _ ((wr.alloc (.cells (cellsOf .u8 (mk 4 zeroK)) 80)).setRow wr.heap.size (cellsOf .u8 (mk 4 (wdTo N g M i))))
        have D2 := D1.out
        have R2 := R1.out
        have W2 := W1.out
        have L2 := L1.out
        clear D1 R1 W1 L1 N1 CW
        generalize (wr.alloc (.cells (cellsOf .u8 (mk 4 zeroK)) 80)).setRow wr.heap.size (cellsOf .u8 (mk 4 (wdTo N g M i))) = w2 at *
        have D1 := Lib.hid D2.drew
        have R1 := Lib.hid R2.drew
        have W1 := Lib.hid W2.drew
        have L1 := Lib.hid L2.drew
        clear D2 R2 W2 L2
        refine wp_region_still_tail 9 (by kernel_rfl) (by kernel_rfl) ?_
        simp only [List.take_succ_cons, List.take_zero, List.drop_succ_cons, List.drop_zero]
        change wpStill _ _ w2.drew (fun a' => wpList _ _ _ _ a' w2.drew) _ _
        iterate 9 still_step
        refine wpStill_nil ?_
        have CD : Cells w2.drew wr.heap.size 0 4 (wdTo N g M i) := by
          have := W1.out.cells (o := 0) (n := 4) (by omega)
          simpa using this
        refine wpList_copy_part rfl _ _ _ _ rfl 5 bytesUnder byteInfo w1.heap.size (4 * i) (16 - s) (16 - s) wr.heap.size 0 4 4 4 (T * 16) (rdTo (flat (wdTo N g M)) i) (wdTo N g M i) rfl rfl 25 R1.out e12 (Nat.min_eq_left e11).symm CD ?_
        have D3 := Lib.hid (D1.out.otherRow (C := w1.heap.size) (by omega) (cellsOf .u8 (mk (T * 16) (put (rdTo (flat (wdTo N g M)) i) (4 * i) 4 (wdTo N g M i)))))
        have R3 := Lib.hid (R1.out.setRow .u8 (mk (T * 16) (put (rdTo (flat (wdTo N g M)) i) (4 * i) 4 (wdTo N g M i))))
        have L3 := Lib.hid (below_setRow L1.out (g := w1.heap.size) (by omega) (cellsOf .u8 (mk (T * 16) (put (rdTo (flat (wdTo N g M)) i) (4 * i) 4 (wdTo N g M i)))))
        clear D1 R1 W1 L1 CD
        go_wp2
        go_roundw
        case' rel => exact ⟨i + 1, by omega, by go_num, D3.out, by rw [← rdTo_step]; exact R3.out, L3.out⟩
        case' measure => simp [intOf]; omega
      · obtain rfl : i = M := by omega
        have t1 : decide ((i : Int) < (i : Int)) = false := by simp
        have HD := Lib.hid hr
        have HW := Lib.hid hw
        clear hd hr hw
        go_wp2
        go_ret2
        refine ⟨w1.heap.size, rfl, ?_, HW.out⟩
        have h := HD.out
        rw [rdTo_all _ (show T * 16 = 4 * i by have := HN.out; omega)] at h
        have k := keysAt_row h
        rw [HR.out] at k; exact k
end Go.Proofs.Ytklnnmlegagfoaa

/- The contracts of package cipher's Seal and Open, of citadelnum's Num and Is at ErrKey, and of the law's own example: what each answers; and nothing is written that was there. Condition: the bytes are bytes. -/
namespace Go.Proofs.Ytklnnmlegagfoaa
open Go.ChangeShapes Go.WideShapes Go.ChangeAt Go.RowKit

theorem results_cell_row_tmp {P : Program} {fn : Func} {p u : Tmp} {ty : TypeId} (h : fn.results = #[.cell p ty, .tmp u]) (tmps : Array Value) (w : World) (g : Nat) (t : TypeId) (cs : Array Value) (fr : Nat × Nat) (d : TypeDesc)
    (hp : tmps.getD p undef = .pointer (some ⟨g, 0, none⟩)) (hg : w.heap[g]? = some (.cells cs t fr)) (hu : P.underlying ty = some d) (hd : (match d with | .struct _ | .array _ _ => true | _ => false) = true) (hi : (P.info? ty).map (·.size) = some cs.size) :
    (results fn tmps).run P w = .ok (.tuple #[.agg cs, tmps.getD u undef]) w := by
  rw [results_cell_tmp h, hp]
  simp only [asAddr, Sem.run_pure, Result.andThen_ok, run_loadVar_row w g t ty cs fr d hg hu hd hi]
theorem zero_built : Try.prog.built 25 [] = some (cellsOf .u8 (mk 16 zeroK)) := by kernel_rfl
attribute [local irreducible] encK decK rkS

set_option maxRecDepth 100000 in
set_option maxHeartbeats 2000000 in
theorem withEnc_bad (p : Option Addr) (n cap : Nat) (f : Nat → Nat) (h16 : n ≠ 16) (h32 : n ≠ 32) (w : World) :
    Calls Try.prog 45 #[.slice p n cap, .agg (cellsOf .u8 (mk 16 f)), .func (.func 46) #[] #[]] w fun e w' => e = .returned (.tuple #[.agg (cellsOf .u8 (mk 16 zeroK)), .iface 34 (.int .i64 3)]) ∧ Below w.heap.size w w' := by
  have HZ := Lib.hid (blk_two w .u8 25 (mk 16 zeroK) (.cells (cellsOf .u8 (mk 16 f)) 25))
  have HL := Lib.hid (below_two w (.cells (cellsOf .u8 (mk 16 f)) 25) (.cells (cellsOf .u8 (mk 16 zeroK)) 25))
  go_enter Try.func45, Try.ntmps45
  go_wp2_with fail
  refine (Rounds_bad p n cap h16 h32 _).mono ?_
  rintro e w1 ⟨rfl, rfl⟩
  go_wp2_with (first
    | (refine store_row_on rfl 25 _ _ rfl rfl (w.heap.size + 1) (cellsOf .u8 (mk 16 zeroK)) rfl rfl 25 (cellsOf .u8 (mk 16 zeroK)) HZ.out (keySize _) rfl (cellsOf_one _ _) ?_))
  exact bodyPost_ret (results_cell_row_tmp rfl _ _ (w.heap.size + 1) 25 (cellsOf .u8 (mk 16 zeroK)) (0, 0) _ rfl (HZ.out.setRow .u8 (mk 16 zeroK)) keyUnder rfl (keySize _)) rfl ⟨rfl, below_setRow HL.out (by omega) _⟩

set_option maxRecDepth 100000 in
set_option maxHeartbeats 2000000 in
theorem withEnc_ok (p : Option Addr) (n cap N : Nat) (g f : Nat → Nat) (hn : n = 4 * N) (hN : N = 4 ∨ N = 8) (hcap : n ≤ cap) (hg : ∀ i, i < n → g i < 256) (hf : IsKey f) (w : World) (hp : BytesAt w p n g) :
    Calls Try.prog 45 #[.slice p n cap, .agg (cellsOf .u8 (mk 16 f)), .func (.func 46) #[] #[]] w fun e w' => e = .returned (.tuple #[.agg (cellsOf .u8 (mk 16 (encK (rkS N g) (N + 7) f))), .nilIface]) ∧ Below w.heap.size w w' := by
  have HA := Lib.hid ((IntBlk.new w .u8 25 (mk 16 f)).alloc (.cells (cellsOf .u8 (mk 16 zeroK)) 25))
  have HZ := Lib.hid (blk_two w .u8 25 (mk 16 zeroK) (.cells (cellsOf .u8 (mk 16 f)) 25))
  have HL := Lib.hid (below_two w (.cells (cellsOf .u8 (mk 16 f)) 25) (.cells (cellsOf .u8 (mk 16 zeroK)) 25))
  have RC := Lib.hid (fun W h => Rounds_ok p n cap N g hn hN hcap hg W h)
  have hr : ∀ i, i < N + 7 → IsKey (rkS N g i) := fun i _ => rkS_key (fun i hi => hg i (by omega)) i
  have hT : N + 7 < 4294967296 := by omega
  have HP := Lib.hid (hp.below HL.out)
  clear hn hN hcap hg hp
  generalize rkS N g = R at *
  generalize N + 7 = T at *
  go_enter Try.func45, Try.ntmps45
  go_wp2_with fail
  refine (RC.out _ HP.out).mono ?_
  rintro e w1 ⟨D, rfl, hk, hb⟩
  have A1 := Lib.hid (HA.out.below hb HA.out.lt)
  have Z1 := Lib.hid (HZ.out.below hb HZ.out.lt)
  have L1 := Lib.hid (HL.out.trans (hb.mono HL.out.size))
  clear HA HZ HL HP RC hb
  go_wp2_with (first
    | (refine wpList_load_row rfl 25 _ rfl w.heap.size rfl 25 (cellsOf .u8 (mk 16 f)) (0, 0) _ A1.out keyUnder rfl (keySize f) ?_)
    | fail)
  refine (Encrypt_any (some ⟨D, 0, none⟩) T T R f hr hf hT _ hk).mono ?_
  rintro e w2 ⟨rfl, hb⟩
  have Z2 := Lib.hid (Z1.out.below hb Z1.out.lt)
  have L2 := Lib.hid (L1.out.trans (hb.mono L1.out.size))
  clear A1 Z1 L1 hb hk
  go_wp2_with (first
    | (refine store_row_on rfl 25 _ _ rfl rfl (w.heap.size + 1) (cellsOf .u8 (mk 16 (encK R T f))) rfl rfl 25 (cellsOf .u8 (mk 16 zeroK)) Z2.out (keySize _) (by rw [cellsOf_size, cellsOf_size, mk_len, mk_len]) (cellsOf_one _ _) ?_))
  exact bodyPost_ret (results_cell_row_tmp rfl _ _ (w.heap.size + 1) 25 (cellsOf .u8 (mk 16 (encK R T f))) (0, 0) _ rfl (Z2.out.setRow .u8 (mk 16 (encK R T f))) keyUnder rfl (keySize _)) rfl ⟨rfl, below_setRow L2.out (by omega) _⟩

set_option maxRecDepth 100000 in
set_option maxHeartbeats 2000000 in
theorem Seal_via (p : Option Addr) (n cap : Nat) (f r : Nat → Nat) (v : Value) (w : World)
    (hc : ∀ W, Below w.heap.size w W → Calls Try.prog 45 #[.slice p n cap, .agg (cellsOf .u8 (mk 16 f)), .func (.func 46) #[] #[]] W fun e w' => e = .returned (.tuple #[.agg (cellsOf .u8 (mk 16 r)), v]) ∧ Below W.heap.size W w') :
    Calls Try.prog 32 #[.slice p n cap, .agg (cellsOf .u8 (mk 16 f))] w fun e w' => e = .returned (.tuple #[.agg (cellsOf .u8 (mk 16 r)), v]) ∧ Below w.heap.size w w' := by
  have HA := Lib.hid ((IntBlk.new w .u8 25 (mk 16 f)).alloc (.cells (cellsOf .u8 (mk 16 zeroK)) 25))
  have HZ := Lib.hid (blk_two w .u8 25 (mk 16 zeroK) (.cells (cellsOf .u8 (mk 16 f)) 25))
  have HL := Lib.hid (below_two w (.cells (cellsOf .u8 (mk 16 f)) 25) (.cells (cellsOf .u8 (mk 16 zeroK)) 25))
  have HC := Lib.hid hc
  clear hc
  go_enter Try.func32, Try.ntmps32
  go_wp2_with (first
    | (refine wpList_load_row rfl 25 _ rfl w.heap.size rfl 25 (cellsOf .u8 (mk 16 f)) (0, 0) _ HA.out keyUnder rfl (keySize f) ?_)
    | fail)
  refine (HC.out _ HL.out).mono ?_
  rintro e w1 ⟨rfl, hb⟩
  have Z1 := Lib.hid (HZ.out.below hb HZ.out.lt)
  have L1 := Lib.hid (HL.out.trans (hb.mono HL.out.size))
  clear HA HZ HL HC hb
  go_wp2_with (first
    | (refine store_row_on rfl 25 _ _ rfl rfl (w.heap.size + 1) (cellsOf .u8 (mk 16 r)) rfl rfl 25 (cellsOf .u8 (mk 16 zeroK)) Z1.out (keySize _) (by rw [cellsOf_size, cellsOf_size, mk_len, mk_len]) (cellsOf_one _ _) ?_))
  exact bodyPost_ret (results_cell_row_tmp rfl _ _ (w.heap.size + 1) 25 (cellsOf .u8 (mk 16 r)) (0, 0) _ rfl (Z1.out.setRow .u8 (mk 16 r)) keyUnder rfl (keySize _)) rfl ⟨rfl, below_setRow L1.out (by omega) _⟩
theorem Seal_bad (p : Option Addr) (n cap : Nat) (f : Nat → Nat) (h16 : n ≠ 16) (h32 : n ≠ 32) (w : World) :
    Calls Try.prog 32 #[.slice p n cap, .agg (cellsOf .u8 (mk 16 f))] w fun e w' => e = .returned (.tuple #[.agg (cellsOf .u8 (mk 16 zeroK)), .iface 34 (.int .i64 3)]) ∧ Below w.heap.size w w' :=
  Seal_via p n cap f zeroK _ w fun W _ => withEnc_bad p n cap f h16 h32 W
theorem Seal_ok (p : Option Addr) (n cap N : Nat) (g f : Nat → Nat) (hn : n = 4 * N) (hN : N = 4 ∨ N = 8) (hcap : n ≤ cap) (hg : ∀ i, i < n → g i < 256) (hf : IsKey f) (w : World) (hp : BytesAt w p n g) :
    Calls Try.prog 32 #[.slice p n cap, .agg (cellsOf .u8 (mk 16 f))] w fun e w' => e = .returned (.tuple #[.agg (cellsOf .u8 (mk 16 (encK (rkS N g) (N + 7) f))), .nilIface]) ∧ Below w.heap.size w w' :=
  Seal_via p n cap f (encK (rkS N g) (N + 7) f) _ w fun W h => withEnc_ok p n cap N g f hn hN hcap hg hf W (hp.below h)

set_option maxRecDepth 100000 in
set_option maxHeartbeats 2000000 in
theorem withDec_bad (p : Option Addr) (n cap : Nat) (f : Nat → Nat) (h16 : n ≠ 16) (h32 : n ≠ 32) (w : World) :
    Calls Try.prog 45 #[.slice p n cap, .agg (cellsOf .u8 (mk 16 f)), .func (.func 51) #[] #[]] w fun e w' => e = .returned (.tuple #[.agg (cellsOf .u8 (mk 16 zeroK)), .iface 34 (.int .i64 3)]) ∧ Below w.heap.size w w' := by
  have HZ := Lib.hid (blk_two w .u8 25 (mk 16 zeroK) (.cells (cellsOf .u8 (mk 16 f)) 25))
  have HL := Lib.hid (below_two w (.cells (cellsOf .u8 (mk 16 f)) 25) (.cells (cellsOf .u8 (mk 16 zeroK)) 25))
  go_enter Try.func45, Try.ntmps45
  go_wp2_with fail
  refine (Rounds_bad p n cap h16 h32 _).mono ?_
  rintro e w1 ⟨rfl, rfl⟩
  go_wp2_with (first
    | (refine store_row_on rfl 25 _ _ rfl rfl (w.heap.size + 1) (cellsOf .u8 (mk 16 zeroK)) rfl rfl 25 (cellsOf .u8 (mk 16 zeroK)) HZ.out (keySize _) rfl (cellsOf_one _ _) ?_))
  exact bodyPost_ret (results_cell_row_tmp rfl _ _ (w.heap.size + 1) 25 (cellsOf .u8 (mk 16 zeroK)) (0, 0) _ rfl (HZ.out.setRow .u8 (mk 16 zeroK)) keyUnder rfl (keySize _)) rfl ⟨rfl, below_setRow HL.out (by omega) _⟩

set_option maxRecDepth 100000 in
set_option maxHeartbeats 2000000 in
theorem withDec_ok (p : Option Addr) (n cap N : Nat) (g f : Nat → Nat) (hn : n = 4 * N) (hN : N = 4 ∨ N = 8) (hcap : n ≤ cap) (hg : ∀ i, i < n → g i < 256) (hf : IsKey f) (w : World) (hp : BytesAt w p n g) :
    Calls Try.prog 45 #[.slice p n cap, .agg (cellsOf .u8 (mk 16 f)), .func (.func 51) #[] #[]] w fun e w' => e = .returned (.tuple #[.agg (cellsOf .u8 (mk 16 (decK (rkS N g) (N + 7) f))), .nilIface]) ∧ Below w.heap.size w w' := by
  have HA := Lib.hid ((IntBlk.new w .u8 25 (mk 16 f)).alloc (.cells (cellsOf .u8 (mk 16 zeroK)) 25))
  have HZ := Lib.hid (blk_two w .u8 25 (mk 16 zeroK) (.cells (cellsOf .u8 (mk 16 f)) 25))
  have HL := Lib.hid (below_two w (.cells (cellsOf .u8 (mk 16 f)) 25) (.cells (cellsOf .u8 (mk 16 zeroK)) 25))
  have RC := Lib.hid (fun W h => Rounds_ok p n cap N g hn hN hcap hg W h)
  have hr : ∀ i, i < N + 7 → IsKey (rkS N g i) := fun i _ => rkS_key (fun i hi => hg i (by omega)) i
  have hT : N + 7 < 4294967296 := by omega
  have HP := Lib.hid (hp.below HL.out)
  clear hn hN hcap hg hp
  generalize rkS N g = R at *
  generalize N + 7 = T at *
  go_enter Try.func45, Try.ntmps45
  go_wp2_with fail
  refine (RC.out _ HP.out).mono ?_
  rintro e w1 ⟨D, rfl, hk, hb⟩
  have A1 := Lib.hid (HA.out.below hb HA.out.lt)
  have Z1 := Lib.hid (HZ.out.below hb HZ.out.lt)
  have L1 := Lib.hid (HL.out.trans (hb.mono HL.out.size))
  clear HA HZ HL HP RC hb
  go_wp2_with (first
    | (refine wpList_load_row rfl 25 _ rfl w.heap.size rfl 25 (cellsOf .u8 (mk 16 f)) (0, 0) _ A1.out keyUnder rfl (keySize f) ?_)
    | fail)
  refine (Decrypt_any (some ⟨D, 0, none⟩) T T R f hr hf hT _ hk).mono ?_
  rintro e w2 ⟨rfl, hb⟩
  have Z2 := Lib.hid (Z1.out.below hb Z1.out.lt)
  have L2 := Lib.hid (L1.out.trans (hb.mono L1.out.size))
  clear A1 Z1 L1 hb hk
  go_wp2_with (first
    | (refine store_row_on rfl 25 _ _ rfl rfl (w.heap.size + 1) (cellsOf .u8 (mk 16 (decK R T f))) rfl rfl 25 (cellsOf .u8 (mk 16 zeroK)) Z2.out (keySize _) (by rw [cellsOf_size, cellsOf_size, mk_len, mk_len]) (cellsOf_one _ _) ?_))
  exact bodyPost_ret (results_cell_row_tmp rfl _ _ (w.heap.size + 1) 25 (cellsOf .u8 (mk 16 (decK R T f))) (0, 0) _ rfl (Z2.out.setRow .u8 (mk 16 (decK R T f))) keyUnder rfl (keySize _)) rfl ⟨rfl, below_setRow L2.out (by omega) _⟩

theorem assert_key (v : Value) (w : World) : (Instr.typeAssert (.iface 34 v) 27 34 true).run Try.prog w = .ok (.tuple #[v, .bool true]) w := by
  simp [Instr.typeAssert, run_underlying Try.underlying34]
set_option maxHeartbeats 1000000 in
theorem Is_key (w : World) : Calls Try.prog 15 #[.iface 34 (.int .i64 3), .int .i64 3] w fun e w' => e = .returned (.bool true) ∧ w = w' := by
  have ta := fun W => assert_key (.int .i64 3) W
  go_enter Try.func15, Try.ntmps15
  go_wp2
  go_ret
  exact ⟨rfl, rfl⟩
end Go.Proofs.Ytklnnmlegagfoaa

/- The contract of package tweak's Tweak: a number's tweak, or ErrKey. Condition: the key's bytes are bytes. -/
namespace Go.Proofs.Ytklnnmlegagfoaa
open Go.ChangeShapes Go.WideShapes Go.ChangeAt Go.RowKit

/-- A number's bytes, the lowest first. -/
def numK (z : Int) : Nat → Nat := fun i => if i < 8 then (z / 2 ^ (8 * i) % 256).toNat else 0
def numTo (z : Int) (k : Nat) : Nat → Nat := fun i => if i < k then numK z i else 0
theorem numK_key (z : Int) : IsKey (numK z) := fun i _ => by unfold numK; split <;> omega
theorem numTo_start (z : Int) : mk 16 (numTo z 0) = mk 16 zeroK := mk_ext fun i _ => by unfold numTo zeroK; rw [if_neg (by omega)]
theorem numTo_end (z : Int) : mk 16 (numTo z 8) = mk 16 (numK z) := mk_ext fun i _ => by unfold numTo numK; split <;> rfl
theorem numTo_step (z : Int) {k : Nat} (h : k < 8) {x : Int} (hx : x = z / 2 ^ (8 * k) % 256) : (mk 16 (numTo z k)).set k x = mk 16 (numTo z (k + 1)) := by
  refine mk_set_is (v := numK z k) (by rw [hx]; unfold numK; rw [if_pos h]; omega) fun j _ => ?_
  unfold numTo
  by_cases e : j = k
  · subst e; rw [if_pos rfl, if_pos (by omega)]
  · rw [if_neg e]
    by_cases l : j < k
    · rw [if_pos l, if_pos (by omega)]
    · rw [if_neg l, if_neg (by omega)]
attribute [local irreducible] encK rkS numK

set_option maxRecDepth 100000 in
set_option maxHeartbeats 400000 in
theorem Tweak_via (p : Option Addr) (n cap : Nat) (z : Int) (r : Nat → Nat) (v : Value) (w : World)
    (hc : ∀ W, Below w.heap.size w W → Calls Try.prog 32 #[.slice p n cap, .agg (cellsOf .u8 (mk 16 (numK z)))] W fun e w' => e = .returned (.tuple #[.agg (cellsOf .u8 (mk 16 r)), v]) ∧ Below W.heap.size W w') :
    Calls Try.prog 12 #[.slice p n cap, .int .i64 z] w fun e w' => e = .returned (.tuple #[.agg (cellsOf .u8 (mk 16 r)), v]) ∧ Below w.heap.size w w' := by
  have HN := Lib.hid (blk_two w .u8 25 (mk 16 zeroK) (.cells (cellsOf .u8 (mk 16 zeroK)) 25))
  have HZ := Lib.hid ((IntBlk.new w .u8 25 (mk 16 zeroK)).alloc (.cells (cellsOf .u8 (mk 16 zeroK)) 25))
  have HL := Lib.hid (below_two w (.cells (cellsOf .u8 (mk 16 zeroK)) 25) (.cells (cellsOf .u8 (mk 16 zeroK)) 25))
  have HC := Lib.hid hc
  clear hc
  go_enter Try.func12, Try.ntmps12
  go_wp2
  go_loopw [8] (fun v8 wr => ∃ k : Nat, k ≤ 8 ∧ v8 = .int .i64 k ∧ IntBlk wr (w.heap.size + 1) .u8 25 (mk 16 (numTo z k)) ∧ IntBlk wr w.heap.size .u8 25 (mk 16 zeroK) ∧ Below w.heap.size w wr) (fun v8 _ => 8 - (intOf v8).toNat)
  case atStart => exact ⟨0, by omega, rfl, by rw [numTo_start]; exact HN.out, HZ.out, HL.out⟩
  case round =>
    obtain ⟨k, hk, rfl, ha, hz, hb⟩ := hrel
    have HA := Lib.hid ha; have HZ' := Lib.hid hz; have HB := Lib.hid hb
    by_cases h8 : k < 8
    · have c1 := ha.cell (i := k) (by rw [mk_len]; omega)
      have f1 := ha.free k
      have e1 : (k : Int) < 8 := by omega
      have e2 : (0 : Int) ≤ 8 * (k : Int) := by omega
      have e3 : IntKind.i64.wrap (8 * (k : Int)) = 8 * (k : Int) := IntWalk.i64_in _ (by omega)
      clear ha hz hb HN HZ HL
      go_wp2
      go_roundw
      case rel => exact ⟨k + 1, by omega, by go_num, by rw [← numTo_step z h8 rfl]; exact HA.out.set k _, HZ'.out.other (by show w.heap.size + 1 ≠ w.heap.size; omega) _, HB.out.setCell (by show w.heap.size ≤ w.heap.size + 1; omega) _⟩
      case measure => simp [intOf]; omega
    · obtain rfl : k = 8 := by omega
      clear ha hz hb HN HZ HL
      rw [numTo_end] at HA
      go_wp2_with (first
        | (refine wpList_load_row rfl 25 _ rfl (w.heap.size + 1) rfl 25 (cellsOf .u8 (mk 16 (numK z))) (0, 0) _ HA.out keyUnder rfl (keySize _) ?_)
        | (go_at_call 32; refine (HC.out wr HB.out).mono ?_; rintro e w1 ⟨rfl, hb1⟩
           have Z1 := Lib.hid (HZ'.out.below hb1 HZ'.out.lt)
           have B1 := Lib.hid (HB.out.trans (hb1.mono HB.out.size))
           clear hb1 HC HA HZ' HB)
        | (refine store_row_on rfl 25 _ _ rfl rfl w.heap.size (cellsOf .u8 (mk 16 r)) rfl rfl 25 (cellsOf .u8 (mk 16 zeroK)) Z1.out (keySize _) (by rw [cellsOf_size, cellsOf_size, mk_len, mk_len]) (cellsOf_one _ _) ?_))
      exact bodyPost_ret (results_cell_row_tmp rfl _ _ w.heap.size 25 (cellsOf .u8 (mk 16 r)) (0, 0) _ rfl (Z1.out.setRow .u8 (mk 16 r)) keyUnder rfl (keySize _)) rfl ⟨rfl, below_setRow B1.out (Nat.le_refl _) _⟩
theorem Tweak_bad (p : Option Addr) (n cap : Nat) (z : Int) (h16 : n ≠ 16) (h32 : n ≠ 32) (w : World) :
    Calls Try.prog 12 #[.slice p n cap, .int .i64 z] w fun e w' => e = .returned (.tuple #[.agg (cellsOf .u8 (mk 16 zeroK)), .iface 34 (.int .i64 3)]) ∧ Below w.heap.size w w' :=
  Tweak_via p n cap z zeroK _ w fun W _ => Seal_bad p n cap (numK z) h16 h32 W
/-- The tweak of a number with a key of N words. -/
def twF (N : Nat) (g : Nat → Nat) (z : Int) : Nat → Nat := encK (rkS N g) (N + 7) (numK z)
theorem Tweak_ok (p : Option Addr) (n cap N : Nat) (g : Nat → Nat) (z : Int) (hn : n = 4 * N) (hN : N = 4 ∨ N = 8) (hcap : n ≤ cap) (hg : ∀ i, i < n → g i < 256) (w : World) (hp : BytesAt w p n g) :
    Calls Try.prog 12 #[.slice p n cap, .int .i64 z] w fun e w' => e = .returned (.tuple #[.agg (cellsOf .u8 (mk 16 (twF N g z))), .nilIface]) ∧ Below w.heap.size w w' :=
  Tweak_via p n cap z (twF N g z) _ w fun W h => Seal_ok p n cap N g (numK z) hn hN hcap hg (numK_key z) W (hp.below h)
theorem twF_key {N : Nat} {g : Nat → Nat} (z : Int) (hg : ∀ i, i < 4 * N → g i < 256) : IsKey (twF N g z) := by
  unfold twF; rw [encK_is]; exact encTo_key (fun i _ => rkS_key hg i) (numK_key z) _ (Nat.le_refl _)
end Go.Proofs.Ytklnnmlegagfoaa

/- Plain mathematics of layer 6: a block hidden or shown with a tweak, a text of whole blocks, and one with bytes left behind; to show undoes to hide and the other way round. Condition: all bytes are bytes. -/
namespace Go.Proofs.Ytklnnmlegagfoaa
open Go

/-- The tweaks of blocks. -/
def twk (t : Nat → Nat) : Nat → Nat → Nat
  | 0 => t
  | i + 1 => dbl (twk t i)
theorem twk_zero (t : Nat → Nat) : twk t 0 = t := rfl
theorem twk_step (t : Nat → Nat) (i : Nat) : dbl (twk t i) = twk t (i + 1) := rfl
theorem twk_key {t : Nat → Nat} (h : IsKey t) : ∀ i, IsKey (twk t i)
  | 0 => h
  | i + 1 => dbl_key (twk_key h i)
/-- A block sealed (opened, where b says so) with round keys. -/
def cipB (b : Bool) (R : Nat → Nat → Nat) (T : Nat) (f : Nat → Nat) : Nat → Nat := if b then decK R T f else encK R T f
/-- A block hidden (shown, where b says so) with a tweak. -/
def wB (b : Bool) (R : Nat → Nat → Nat) (T : Nat) (t f : Nat → Nat) : Nat → Nat := xorK t (cipB b R T (xorK t f))
theorem cipB_key {b : Bool} {R : Nat → Nat → Nat} {T : Nat} {f : Nat → Nat} (hR : ∀ i, i < T → IsKey (R i)) (hf : IsKey f) : IsKey (cipB b R T f) := by
  unfold cipB; split
  · exact decTo_key hR hf T (Nat.le_refl _)
  · exact encTo_key hR hf T (Nat.le_refl _)
theorem wB_key {b : Bool} {R : Nat → Nat → Nat} {T : Nat} {t f : Nat → Nat} (hR : ∀ i, i < T → IsKey (R i)) (ht : IsKey t) (hf : IsKey f) : IsKey (wB b R T t f) :=
  xorK_key ht (cipB_key hR (xorK_key ht hf))
theorem eq_encTo {f g : Nat → Nat} (R : Nat → Nat → Nat) (n : Nat) (h : EqK f g) : ∀ i, EqK (encTo R n f i) (encTo R n g i)
  | 0 => h
  | i + 1 => eq_xor (eq_inE n i (eq_encTo R n h i))
theorem eq_decTo {f g : Nat → Nat} (R : Nat → Nat → Nat) (n : Nat) (h : EqK f g) : ∀ d, EqK (decTo R n f d) (decTo R n g d)
  | 0 => h
  | d + 1 => eq_inD n (n - 1 - d) (eq_xor (eq_decTo R n h d))
theorem eq_cip {f g : Nat → Nat} (b : Bool) (R : Nat → Nat → Nat) (T : Nat) (h : EqK f g) : EqK (cipB b R T f) (cipB b R T g) := by
  unfold cipB; split
  · exact eq_decTo R T h T
  · exact eq_encTo R T h T
theorem eq_xorL {f g : Nat → Nat} (a : Nat → Nat) (h : EqK f g) : EqK (xorK a f) (xorK a g) := fun j hj => by unfold xorK; rw [h j hj]
theorem eq_wB {f g : Nat → Nat} (b : Bool) (R : Nat → Nat → Nat) (T : Nat) (t : Nat → Nat) (h : EqK f g) : EqK (wB b R T t f) (wB b R T t g) := eq_xorL t (eq_cip b R T (eq_xorL t h))
theorem xor_comm (f g : Nat → Nat) : xorK f g = xorK g f := funext fun _ => Nat.xor_comm _ _
theorem xor_back (a f : Nat → Nat) : EqK (xorK a (xorK a f)) f := fun j _ => by
  show a j ^^^ (a j ^^^ f j) = f j
  rw [← Nat.xor_assoc, Nat.xor_self, Nat.zero_xor]
theorem cip_back {b : Bool} {R : Nat → Nat → Nat} {T : Nat} {f : Nat → Nat} (hR : ∀ i, i < T → IsKey (R i)) (hf : IsKey f) : EqK (cipB (!b) R T (cipB b R T f)) f := by
  cases b
  · have := dec_from hR hf T (Nat.le_refl T)
    rw [Nat.sub_self] at this; exact this
  · have := enc_from hR hf T (Nat.le_refl T)
    rw [Nat.sub_self] at this; exact this
theorem wB_back {b : Bool} {R : Nat → Nat → Nat} {T : Nat} {t f : Nat → Nat} (hR : ∀ i, i < T → IsKey (R i)) (ht : IsKey t) (hf : IsKey f) : EqK (wB (!b) R T t (wB b R T t f)) f :=
  (eq_xorL t ((eq_cip (!b) R T (xor_back t _)).trans (cip_back hR (xorK_key ht hf)))).trans (xor_back t f)

/-- Block i of a text. -/
def blk (F : Nat → Nat) (i : Nat) : Nat → Nat := fun j => F (16 * i + j)
/-- A text whose first a blocks are turned. -/
def hidW (b : Bool) (R : Nat → Nat → Nat) (T : Nat) (t : Nat → Nat) (a : Nat) (F : Nat → Nat) : Nat → Nat := fun p => if p < 16 * a then wB b R T (twk t (p / 16)) (blk F (p / 16)) (p % 16) else F p
theorem hidW_zero (b : Bool) (R : Nat → Nat → Nat) (T : Nat) (t F : Nat → Nat) : hidW b R T t 0 F = F := funext fun p => by unfold hidW; rw [if_neg (by omega)]
theorem hidW_far {b : Bool} {R : Nat → Nat → Nat} {T : Nat} {t F : Nat → Nat} {a p : Nat} (h : 16 * a ≤ p) : hidW b R T t a F p = F p := by unfold hidW; rw [if_neg (by omega)]
theorem hidW_in {b : Bool} {R : Nat → Nat → Nat} {T : Nat} {t F : Nat → Nat} {a i j : Nat} (h : i < a) (hj : j < 16) : hidW b R T t a F (16 * i + j) = wB b R T (twk t i) (blk F i) j := by
  unfold hidW; rw [if_pos (by omega), show (16 * i + j) / 16 = i by omega, show (16 * i + j) % 16 = j by omega]
theorem hidW_step (N : Nat) (b : Bool) (R : Nat → Nat → Nat) (T : Nat) (t : Nat → Nat) (a : Nat) (F : Nat → Nat) : mk N (put (hidW b R T t a F) (16 * a) 16 (wB b R T (twk t a) (blk F a))) = mk N (hidW b R T t (a + 1) F) := mk_ext fun p _ => by
  unfold put
  by_cases h : 16 * a ≤ p ∧ p < 16 * a + 16
  · rw [if_pos h]
    obtain ⟨j, rfl, hj⟩ : ∃ j, p = 16 * a + j ∧ j < 16 := ⟨p - 16 * a, by omega, by omega⟩
    rw [hidW_in (by omega) hj, Nat.add_sub_cancel_left]
  · rw [if_neg h]
    unfold hidW
    by_cases h2 : p < 16 * a
    · rw [if_pos h2, if_pos (by omega)]
    · rw [if_neg h2, if_neg (by omega)]
/-- The tweak with which a text's last block is turned first, and behind it. -/
def twA (b : Bool) (t : Nat → Nat) (m : Nat) : Nat → Nat := if b then twk t m else twk t (m - 1)
def twZ (b : Bool) (t : Nat → Nat) (m : Nat) : Nat → Nat := if b then twk t (m - 1) else twk t m
theorem twA_key {b : Bool} {t : Nat → Nat} (h : IsKey t) (m : Nat) : IsKey (twA b t m) := by unfold twA; split <;> exact twk_key h _
theorem twZ_key {b : Bool} {t : Nat → Nat} (h : IsKey t) (m : Nat) : IsKey (twZ b t m) := by unfold twZ; split <;> exact twk_key h _
theorem twA_not (b : Bool) (t : Nat → Nat) (m : Nat) : twA (!b) t m = twZ b t m := by cases b <;> rfl
theorem twZ_not (b : Bool) (t : Nat → Nat) (m : Nat) : twZ (!b) t m = twA b t m := by cases b <;> rfl
/-- The last whole block, turned alone; and, with the left bytes in the place of its first, turned again. -/
def endC (b : Bool) (R : Nat → Nat → Nat) (T : Nat) (t : Nat → Nat) (m : Nat) (F : Nat → Nat) : Nat → Nat := wB b R T (twA b t m) (blk F (m - 1))
def mixB (r : Nat) (x y : Nat → Nat) : Nat → Nat := fun j => if j < r then x j else y j
def endD (b : Bool) (R : Nat → Nat → Nat) (T : Nat) (t : Nat → Nat) (m r : Nat) (F : Nat → Nat) : Nat → Nat := wB b R T (twZ b t m) (mixB r (blk F m) (endC b R T t m F))
/-- A text of N bytes turned. -/
def txtW (b : Bool) (R : Nat → Nat → Nat) (T : Nat) (t : Nat → Nat) (N : Nat) (F : Nat → Nat) : Nat → Nat := fun p =>
  if N % 16 = 0 then hidW b R T t (N / 16) F p
  else if p < 16 * (N / 16 - 1) then hidW b R T t (N / 16 - 1) F p
  else if p < 16 * (N / 16) then endD b R T t (N / 16) (N % 16) F (p - 16 * (N / 16 - 1))
  else endC b R T t (N / 16) F (p - 16 * (N / 16))
theorem txtW_whole {b : Bool} {R : Nat → Nat → Nat} {T : Nat} {t : Nat → Nat} {N : Nat} {F : Nat → Nat} (h : N % 16 = 0) : txtW b R T t N F = hidW b R T t (N / 16) F := funext fun p => by unfold txtW; rw [if_pos h]
theorem txtW_in {b : Bool} {R : Nat → Nat → Nat} {T : Nat} {t : Nat → Nat} {N : Nat} {F : Nat → Nat} {i j : Nat} (h : (N % 16 = 0 ∧ i < N / 16) ∨ i < N / 16 - 1) (hj : j < 16) : txtW b R T t N F (16 * i + j) = wB b R T (twk t i) (blk F i) j := by
  unfold txtW
  by_cases h0 : N % 16 = 0
  · rw [if_pos h0, hidW_in (by omega) hj]
  · rw [if_neg h0, if_pos (by omega), hidW_in (by omega) hj]
theorem txtW_mid {b : Bool} {R : Nat → Nat → Nat} {T : Nat} {t : Nat → Nat} {N : Nat} {F : Nat → Nat} {j : Nat} (h0 : N % 16 ≠ 0) (hm : 1 ≤ N / 16) (hj : j < 16) : txtW b R T t N F (16 * (N / 16 - 1) + j) = endD b R T t (N / 16) (N % 16) F j := by
  unfold txtW
  rw [if_neg h0, if_neg (by omega), if_pos (by omega), Nat.add_sub_cancel_left]
theorem txtW_end {b : Bool} {R : Nat → Nat → Nat} {T : Nat} {t : Nat → Nat} {N : Nat} {F : Nat → Nat} {j : Nat} (h0 : N % 16 ≠ 0) : txtW b R T t N F (16 * (N / 16) + j) = endC b R T t (N / 16) F j := by
  unfold txtW
  rw [if_neg h0, if_neg (by omega), if_neg (by omega), Nat.add_sub_cancel_left]
theorem blk_key {N : Nat} {F : Nat → Nat} (hF : ∀ p, p < N → F p < 256) {i : Nat} (h : 16 * i + 16 ≤ N) : IsKey (blk F i) := fun j hj => hF _ (by omega)
theorem endC_key {b : Bool} {R : Nat → Nat → Nat} {T : Nat} {t : Nat → Nat} {N : Nat} {F : Nat → Nat} (hR : ∀ i, i < T → IsKey (R i)) (ht : IsKey t) (hF : ∀ p, p < N → F p < 256) (hN : 16 ≤ N) : IsKey (endC b R T t (N / 16) F) :=
  wB_key hR (twA_key ht _) (blk_key hF (by omega))
theorem mix_key {N : Nat} {F y : Nat → Nat} (hF : ∀ p, p < N → F p < 256) (hy : IsKey y) : IsKey (mixB (N % 16) (blk F (N / 16)) y) := fun j hj => by
  unfold mixB; split
  · exact hF _ (by omega)
  · exact hy j hj
theorem endD_key {b : Bool} {R : Nat → Nat → Nat} {T : Nat} {t : Nat → Nat} {N : Nat} {F : Nat → Nat} (hR : ∀ i, i < T → IsKey (R i)) (ht : IsKey t) (hF : ∀ p, p < N → F p < 256) (hN : 16 ≤ N) : IsKey (endD b R T t (N / 16) (N % 16) F) :=
  wB_key hR (twZ_key ht _) (mix_key hF (endC_key hR ht hF hN))
theorem txtW_lt {b : Bool} {R : Nat → Nat → Nat} {T : Nat} {t : Nat → Nat} {N : Nat} {F : Nat → Nat} (hR : ∀ i, i < T → IsKey (R i)) (ht : IsKey t) (hF : ∀ p, p < N → F p < 256) (hN : 16 ≤ N) : ∀ p, p < N → txtW b R T t N F p < 256 := fun p hp => by
  by_cases h1 : (N % 16 = 0 ∧ p / 16 < N / 16) ∨ p / 16 < N / 16 - 1
  · have := wB_key (b := b) hR (twk_key ht (p / 16)) (blk_key hF (i := p / 16) (by omega)) (p % 16) (by omega)
    rw [show p = 16 * (p / 16) + p % 16 by omega, txtW_in h1 (by omega)]; exact this
  · have h0 : N % 16 ≠ 0 := by omega
    by_cases h2 : p < 16 * (N / 16)
    · rw [show p = 16 * (N / 16 - 1) + (p - 16 * (N / 16 - 1)) by omega, txtW_mid h0 (by omega) (by omega)]
      exact endD_key hR ht hF hN _ (by omega)
    · rw [show p = 16 * (N / 16) + (p - 16 * (N / 16)) by omega, txtW_end h0]
      exact endC_key hR ht hF hN _ (by omega)
theorem blk_txt {b : Bool} {R : Nat → Nat → Nat} {T : Nat} {t : Nat → Nat} {N : Nat} {F : Nat → Nat} {i : Nat} (h : (N % 16 = 0 ∧ i < N / 16) ∨ i < N / 16 - 1) : EqK (blk (txtW b R T t N F) i) (wB b R T (twk t i) (blk F i)) := fun _ hj => txtW_in h hj
/-- What is hidden is shown again, and the other way round. -/
theorem txt_back {b : Bool} {R : Nat → Nat → Nat} {T : Nat} {t : Nat → Nat} {N : Nat} {F : Nat → Nat} (hR : ∀ i, i < T → IsKey (R i)) (ht : IsKey t) (hF : ∀ p, p < N → F p < 256) (hN : 16 ≤ N) : ∀ p, p < N → txtW (!b) R T t N (txtW b R T t N F) p = F p := fun p hp => by
  by_cases h1 : (N % 16 = 0 ∧ p / 16 < N / 16) ∨ p / 16 < N / 16 - 1
  · have e := (eq_wB (!b) R T (twk t (p / 16)) (blk_txt (b := b) (R := R) (T := T) (t := t) (F := F) h1)).trans (wB_back hR (twk_key ht _) (blk_key hF (by omega))) (p % 16) (by omega)
    have := txtW_in (b := !b) (R := R) (T := T) (t := t) (F := txtW b R T t N F) h1 (show p % 16 < 16 by omega)
    rw [show 16 * (p / 16) + p % 16 = p by omega] at this
    rw [this, e]
    unfold blk; rw [show 16 * (p / 16) + p % 16 = p by omega]
  · have h0 : N % 16 ≠ 0 := by omega
    have hC := endC_key (b := b) hR ht hF hN
    have hX := mix_key hF hC
    -- the last whole block, turned back alone
    have c1 : EqK (endC (!b) R T t (N / 16) (txtW b R T t N F)) (mixB (N % 16) (blk F (N / 16)) (endC b R T t (N / 16) F)) := by
      have e1 : EqK (blk (txtW b R T t N F) (N / 16 - 1)) (endD b R T t (N / 16) (N % 16) F) := fun j hj => txtW_mid h0 (by omega) hj
      show EqK (wB (!b) R T (twA (!b) t (N / 16)) _) _
      rw [twA_not]
      exact (eq_wB (!b) R T _ e1).trans (wB_back hR (twZ_key ht _) hX)
    by_cases h2 : p < 16 * (N / 16)
    · have e2 : EqK (mixB (N % 16) (blk (txtW b R T t N F) (N / 16)) (endC (!b) R T t (N / 16) (txtW b R T t N F))) (endC b R T t (N / 16) F) := fun j hj => by
        show (if j < N % 16 then _ else _) = _
        by_cases hr : j < N % 16
        · rw [if_pos hr]; exact txtW_end h0
        · rw [if_neg hr, c1 j hj]; show (if j < N % 16 then _ else _) = _; rw [if_neg hr]
      have e3 : EqK (endD (!b) R T t (N / 16) (N % 16) (txtW b R T t N F)) (blk F (N / 16 - 1)) := by
        show EqK (wB (!b) R T (twZ (!b) t (N / 16)) _) _
        rw [twZ_not]
        exact (eq_wB (!b) R T _ e2).trans (wB_back hR (twA_key ht _) (blk_key hF (by omega)))
      have := txtW_mid (b := !b) (R := R) (T := T) (t := t) (F := txtW b R T t N F) h0 (by omega) (show p - 16 * (N / 16 - 1) < 16 by omega)
      rw [show 16 * (N / 16 - 1) + (p - 16 * (N / 16 - 1)) = p by omega] at this
      rw [this, e3 _ (by omega)]
      unfold blk; rw [show 16 * (N / 16 - 1) + (p - 16 * (N / 16 - 1)) = p by omega]
    · have := txtW_end (b := !b) (R := R) (T := T) (t := t) (F := txtW b R T t N F) (j := p - 16 * (N / 16)) h0
      rw [show 16 * (N / 16) + (p - 16 * (N / 16)) = p by omega] at this
      rw [this, c1 _ (by omega)]
      show (if p - 16 * (N / 16) < N % 16 then _ else _) = _
      rw [if_pos (by omega)]
      unfold blk; rw [show 16 * (N / 16) + (p - 16 * (N / 16)) = p by omega]
end Go.Proofs.Ytklnnmlegagfoaa

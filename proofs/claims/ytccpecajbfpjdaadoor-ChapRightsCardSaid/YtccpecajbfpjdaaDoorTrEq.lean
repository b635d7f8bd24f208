/- RdEq: cut by mkrdeq.py out of XEqC: the contracts of package mac's Equal and byteAt, and citadelnum's Same. Conditions: bytes are bytes; no row is longer than 2^47 - 4096. -/
import Derived.Test.YtccpecajbfpjdaaDoorPlBase
import Derived.Lib.Bytes
namespace Go.Proofs.YtccpecajbfpjdaaDoor
open Go.ChangeShapes Go.WideShapes Go.ChangeAt Go.RowKit
set_option linter.unusedVariables false

theorem bits_xor_i64 {x y : Nat} (hx : x < 4611686018427387904) (hy : y < 4611686018427387904) : bits .xor .i64 (x : Int) (y : Int) = ((x ^^^ y : Nat) : Int) := by
  have h : x ^^^ y < 2 ^ 62 := Nat.xor_lt_two_pow (n := 62) hx hy
  have e1 : x % 2 ^ 64 = x := Nat.mod_eq_of_lt (by omega)
  have e2 : y % 2 ^ 64 = y := Nat.mod_eq_of_lt (by omega)
  have e : (BitVec.ofInt 64 (x : Int) ^^^ BitVec.ofInt 64 (y : Int)).toNat = x ^^^ y := by
    rw [BitVec.toNat_xor, BitVec.ofInt_natCast, BitVec.ofInt_natCast, BitVec.toNat_ofNat, BitVec.toNat_ofNat, e1, e2]
  show IntKind.wrap .i64 ((BitVec.ofInt 64 (x : Int) ^^^ BitVec.ofInt 64 (y : Int)).toNat : Int) = _
  rw [e, IntWalk.i64_in _ (by omega)]
theorem bits_or_i64 {x y : Nat} (hx : x < 4611686018427387904) (hy : y < 4611686018427387904) : bits .or .i64 (x : Int) (y : Int) = ((x ||| y : Nat) : Int) := by
  have h : x ||| y < 2 ^ 62 := Nat.or_lt_two_pow (n := 62) hx hy
  have e1 : x % 2 ^ 64 = x := Nat.mod_eq_of_lt (by omega)
  have e2 : y % 2 ^ 64 = y := Nat.mod_eq_of_lt (by omega)
  have e : (BitVec.ofInt 64 (x : Int) ||| BitVec.ofInt 64 (y : Int)).toNat = x ||| y := by
    rw [BitVec.toNat_or, BitVec.ofInt_natCast, BitVec.ofInt_natCast, BitVec.toNat_ofNat, BitVec.toNat_ofNat, e1, e2]
  show IntKind.wrap .i64 ((BitVec.ofInt 64 (x : Int) ||| BitVec.ofInt 64 (y : Int)).toNat : Int) = _
  rw [e, IntWalk.i64_in _ (by omega)]
theorem xor_zero_iff (x y : Nat) : x ^^^ y = 0 ↔ x = y := by
  constructor
  · intro h
    have : x ^^^ y ^^^ y = 0 ^^^ y := by rw [h]
    rwa [Nat.xor_assoc, Nat.xor_self, Nat.xor_zero, Nat.zero_xor] at this
  · rintro rfl; exact Nat.xor_self _
theorem or_zero_iff (x y : Nat) : x ||| y = 0 ↔ x = 0 ∧ y = 0 := by
  constructor
  · intro h
    have h1 : x ≤ x ||| y := Nat.left_le_or
    have h2 : y ≤ x ||| y := Nat.right_le_or
    omega
  · rintro ⟨rfl, rfl⟩; rfl
/-- A row's byte, or nought behind its end. -/
def atB (n : Nat) (f : Nat → Nat) (i : Nat) : Nat := if i < n then f i else 0
theorem atB_lt {n : Nat} {f : Nat → Nat} (hf : ∀ i, i < n → f i < 256) (i : Nat) : atB n f i < 256 := by unfold atB; split; exact hf i (by assumption); omega
theorem atB_in {n : Nat} {f : Nat → Nat} {i : Nat} (h : i < n) : atB n f i = f i := if_pos h
/-- The same so far. -/
def eqTo (n m : Nat) (f g : Nat → Nat) (i : Nat) : Prop := n = m ∧ ∀ j, j < i → atB n f j = atB m g j
theorem eqTo_step (n m : Nat) (f g : Nat → Nat) (i : Nat) : eqTo n m f g (i + 1) ↔ eqTo n m f g i ∧ atB n f i = atB m g i := by
  constructor
  · rintro ⟨h, k⟩; exact ⟨⟨h, fun j hj => k j (by omega)⟩, k i (by omega)⟩
  · rintro ⟨⟨h, k⟩, l⟩
    refine ⟨h, fun j hj => ?_⟩
    by_cases e : j = i
    · rw [e]; exact l
    · exact k j (by omega)
theorem eqTo_end (n m : Nat) (f g : Nat → Nat) {M : Nat} (hn : n ≤ M) (hm : M ≤ n ∨ M ≤ m) : eqTo n m f g M ↔ mk n f = mk m g := by
  constructor
  · rintro ⟨rfl, h⟩
    refine mk_ext fun i hi => ?_
    have := h i (by omega)
    rwa [atB_in hi, atB_in hi] at this
  · intro h
    have hl : n = m := by have := congrArg List.length h; rwa [mk_len, mk_len] at this
    subst hl
    refine ⟨rfl, fun j hj => ?_⟩
    have hj' : j < n := by omega
    have := congrArg (fun l => l.getD j 0) h
    simp only [mk_get hj'] at this
    rw [atB_in hj', atB_in hj']; omega
attribute [local irreducible] atB eqTo

set_option maxRecDepth 100000 in
theorem byteAt_any (p : Option Addr) (n cap : Nat) (f : Nat → Nat) (i : Nat) (w : World) (hp : BytesAt w p n f) :
    Calls Tryd.prog 39 #[.slice p n cap, .int .i64 i] w fun e w' => e = .returned (.int .u8 (atB n f i : Nat)) ∧ w = w' := by
  by_cases h : i < n
  · have e1 : (i : Int) < n := by omega
    have l0 : (0 : Int) ≤ i := by omega
    rcases hp with hp | ⟨B, o, rfl, hB, hc⟩
    · omega
    have cs := hc i h
    have HA := Lib.hid (show atB n f i = f i from atB_in h)
    go_enter Tryd.func39, Tryd.ntmps39
    go_wp2
    go_ret
    exact ⟨by rw [HA.out]; rfl, rfl⟩
  · have e1 : ¬ (i : Int) < n := by omega
    have HA := Lib.hid (show atB n f i = 0 by unfold atB; rw [if_neg h])
    clear hp
    go_enter Tryd.func39, Tryd.ntmps39
    go_wp2
    go_ret
    exact ⟨by rw [HA.out]; rfl, rfl⟩

set_option maxRecDepth 100000 in
set_option maxHeartbeats 1000000 in
theorem Equal_any (p : Option Addr) (n cp : Nat) (f : Nat → Nat) (q : Option Addr) (m cq : Nat) (g : Nat → Nat) (hf : ∀ i, i < n → f i < 256) (hg : ∀ i, i < m → g i < 256) (hn : n ≤ 140737488351232) (hm : m ≤ 140737488351232) (w : World) (hp : BytesAt w p n f) (hq : BytesAt w q m g) :
    Calls Tryd.prog 24 #[.slice p n cp, .slice q m cq] w fun e w' => e = .returned (.bool (decide (mk n f = mk m g))) ∧ w = w' := by
  rcases Nat.lt_or_ge n m with hlt | hge
  · have hlt2 : (n : Int) < m := by omega
    have hM1 : n ≤ m := by omega
    have hM2 : m ≤ m := by omega
    have hM3 : m ≤ n ∨ m ≤ m := by omega
    have q2 := bits_xor_i64 (x := n) (y := m) (by omega) (by omega)
    have h0 : n ^^^ m = 0 ↔ eqTo n m f g 0 := by
      rw [xor_zero_iff]; unfold eqTo
      exact ⟨fun h => ⟨h, fun j hj => absurd hj (Nat.not_lt_zero _)⟩, fun h => h.1⟩
    have hb0 : n ^^^ m < 4611686018427387904 := Nat.xor_lt_two_pow (n := 62) (by omega) (by omega)
    have HE := Lib.hid (eqTo_end n m f g hM1 hM3)
    have HS := Lib.hid (eqTo_step n m f g)
    have BA := Lib.hid (fun i => byteAt_any p n cp f i w hp)
    have BB := Lib.hid (fun i => byteAt_any q m cq g i w hq)
    have LA := Lib.hid (fun i => atB_lt hf i)
    have LB := Lib.hid (fun i => atB_lt hg i)
    have H0 := Lib.hid h0
    clear h0 hf hg hp hq
    generalize n ^^^ m = d0 at *
    go_enter Tryd.func24, Tryd.ntmps24
    go_wp2
    go_loopw [5, 17] (fun v5 v17 wr => ∃ i d : Nat, i ≤ m ∧ d < 4611686018427387904 ∧ (d = 0 ↔ eqTo n m f g i) ∧ v5 = .int .i64 d ∧ v17 = .int .i64 i ∧ wr = w) (fun _ v17 _ => m - (intOf v17).toNat)
    case atStart => exact ⟨0, d0, by omega, hb0, H0.out, rfl, rfl, rfl⟩
    case round =>
      obtain ⟨i, d, hi, hd, hdz, rfl, rfl, rfl⟩ := hrel
      have HD := Lib.hid hdz
      clear hdz
      by_cases h : i < m
      · have e1 : (i : Int) < m := by omega
        have HSI := Lib.hid (HS.out i)
        have BAi := Lib.hid (BA.out i)
        have BBi := Lib.hid (BB.out i)
        have hx := LA.out i
        have hy := LB.out i
        generalize atB n f i = x at *
        generalize atB m g i = y at *
        have x1 := bits_xor_u8 hx hy
        have hxy : x ^^^ y < 256 := xor_lt hx hy
        have x2 := bits_or_i64 (x := d) (y := x ^^^ y) hd (by omega)
        have hd2 : d ||| (x ^^^ y) < 4611686018427387904 := Nat.or_lt_two_pow (n := 62) hd (by omega)
        have hz : d ||| (x ^^^ y) = 0 ↔ eqTo n m f g (i + 1) := by rw [or_zero_iff, xor_zero_iff, HSI.out, HD.out]
        have HZ := Lib.hid hz
        have q3 : IntKind.i64.wrap ((x ^^^ y : Nat) : Int) = ((x ^^^ y : Nat) : Int) := IntWalk.i64_in _ (by omega)
        clear hz
        generalize d ||| (x ^^^ y) = d2 at *
        generalize x ^^^ y = xy at *
        go_wp2_with (first
          | (go_at_call 39; refine BAi.out.mono ?_; rintro e w1 ⟨rfl, rfl⟩; clear BAi)
          | (go_at_call 39; refine BBi.out.mono ?_; rintro e w1 ⟨rfl, rfl⟩; clear BBi))
        go_roundw
        case rel => exact ⟨i + 1, d2, by omega, hd2, HZ.out, by first | rfl | trivial, by go_num, by first | rfl | trivial⟩
        case measure => simp [intOf]; omega
      · have e0 : i = m := by omega
        rw [e0] at HD
        have hr : (((d : Int) == 0) : Bool) = decide (mk n f = mk m g) := by
          by_cases e : d = 0
          · rw [decide_eq_true (HE.out.1 (HD.out.1 e)), e]; rfl
          · rw [decide_eq_false (fun h => e (HD.out.2 (HE.out.2 h)))]; simp; exact e
        have HR := Lib.hid hr
        clear hr HD HE HS BA BB LA LB H0
        subst e0
        have hd1 : decide ((i : Int) < i) = false := by simp
        go_wp2
        go_ret
        exact ⟨by rw [← HR.out]; rfl, rfl⟩
  · have hge2 : ¬ n < m := by omega
    have hge3 : ¬ (n : Int) < m := by omega
    have hM1 : n ≤ n := by omega
    have hM2 : m ≤ n := by omega
    have hM3 : n ≤ n ∨ n ≤ m := by omega
    have q2 := bits_xor_i64 (x := n) (y := m) (by omega) (by omega)
    have h0 : n ^^^ m = 0 ↔ eqTo n m f g 0 := by
      rw [xor_zero_iff]; unfold eqTo
      exact ⟨fun h => ⟨h, fun j hj => absurd hj (Nat.not_lt_zero _)⟩, fun h => h.1⟩
    have hb0 : n ^^^ m < 4611686018427387904 := Nat.xor_lt_two_pow (n := 62) (by omega) (by omega)
    have HE := Lib.hid (eqTo_end n m f g hM1 hM3)
    have HS := Lib.hid (eqTo_step n m f g)
    have BA := Lib.hid (fun i => byteAt_any p n cp f i w hp)
    have BB := Lib.hid (fun i => byteAt_any q m cq g i w hq)
    have LA := Lib.hid (fun i => atB_lt hf i)
    have LB := Lib.hid (fun i => atB_lt hg i)
    have H0 := Lib.hid h0
    clear h0 hf hg hp hq
    generalize n ^^^ m = d0 at *
    go_enter Tryd.func24, Tryd.ntmps24
    go_wp2
    go_loopw [5, 17] (fun v5 v17 wr => ∃ i d : Nat, i ≤ n ∧ d < 4611686018427387904 ∧ (d = 0 ↔ eqTo n m f g i) ∧ v5 = .int .i64 d ∧ v17 = .int .i64 i ∧ wr = w) (fun _ v17 _ => n - (intOf v17).toNat)
    case atStart => exact ⟨0, d0, by omega, hb0, H0.out, rfl, rfl, rfl⟩
    case round =>
      obtain ⟨i, d, hi, hd, hdz, rfl, rfl, rfl⟩ := hrel
      have HD := Lib.hid hdz
      clear hdz
      by_cases h : i < n
      · have e1 : (i : Int) < n := by omega
        have HSI := Lib.hid (HS.out i)
        have BAi := Lib.hid (BA.out i)
        have BBi := Lib.hid (BB.out i)
        have hx := LA.out i
        have hy := LB.out i
        generalize atB n f i = x at *
        generalize atB m g i = y at *
        have x1 := bits_xor_u8 hx hy
        have hxy : x ^^^ y < 256 := xor_lt hx hy
        have x2 := bits_or_i64 (x := d) (y := x ^^^ y) hd (by omega)
        have hd2 : d ||| (x ^^^ y) < 4611686018427387904 := Nat.or_lt_two_pow (n := 62) hd (by omega)
        have hz : d ||| (x ^^^ y) = 0 ↔ eqTo n m f g (i + 1) := by rw [or_zero_iff, xor_zero_iff, HSI.out, HD.out]
        have HZ := Lib.hid hz
        have q3 : IntKind.i64.wrap ((x ^^^ y : Nat) : Int) = ((x ^^^ y : Nat) : Int) := IntWalk.i64_in _ (by omega)
        clear hz
        generalize d ||| (x ^^^ y) = d2 at *
        generalize x ^^^ y = xy at *
        go_wp2_with (first
          | (go_at_call 39; refine BAi.out.mono ?_; rintro e w1 ⟨rfl, rfl⟩; clear BAi)
          | (go_at_call 39; refine BBi.out.mono ?_; rintro e w1 ⟨rfl, rfl⟩; clear BBi))
        go_roundw
        case rel => exact ⟨i + 1, d2, by omega, hd2, HZ.out, by first | rfl | trivial, by go_num, by first | rfl | trivial⟩
        case measure => simp [intOf]; omega
      · have e0 : i = n := by omega
        rw [e0] at HD
        have hr : (((d : Int) == 0) : Bool) = decide (mk n f = mk m g) := by
          by_cases e : d = 0
          · rw [decide_eq_true (HE.out.1 (HD.out.1 e)), e]; rfl
          · rw [decide_eq_false (fun h => e (HD.out.2 (HE.out.2 h)))]; simp; exact e
        have HR := Lib.hid hr
        clear hr HD HE HS BA BB LA LB H0
        subst e0
        have hd1 : decide ((i : Int) < i) = false := by simp
        go_wp2
        go_ret
        exact ⟨by rw [← HR.out]; rfl, rfl⟩
end Go.Proofs.YtccpecajbfpjdaaDoor

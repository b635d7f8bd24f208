/- Plain mathematics of the field of bytes: the products that the code of package field reckons, and their laws. No condition. -/
import Derived.IntWalk
namespace Go.Proofs.Ytfjbehobpkmjbaa
open Go

/-! ### Bits of bytes -/
theorem bits_xor_u8 {x y : Nat} (hx : x < 256) (hy : y < 256) : bits .xor .u8 (x : Int) (y : Int) = ((x ^^^ y : Nat) : Int) := by
  have h : x ^^^ y < 2 ^ 8 := Nat.xor_lt_two_pow hx hy
  have e1 : x % 2 ^ 8 = x := Nat.mod_eq_of_lt hx
  have e2 : y % 2 ^ 8 = y := Nat.mod_eq_of_lt hy
  have e : (BitVec.ofInt 8 (x : Int) ^^^ BitVec.ofInt 8 (y : Int)).toNat = x ^^^ y := by
    rw [BitVec.toNat_xor, BitVec.ofInt_natCast, BitVec.ofInt_natCast, BitVec.toNat_ofNat, BitVec.toNat_ofNat, e1, e2]
  show IntKind.wrap .u8 ((BitVec.ofInt 8 (x : Int) ^^^ BitVec.ofInt 8 (y : Int)).toNat : Int) = _
  rw [e, IntWalk.u8_in _ ⟨by omega, by omega⟩]
theorem bits_and_u8 {x y : Nat} (hx : x < 256) (hy : y < 256) : bits .and .u8 (x : Int) (y : Int) = ((x &&& y : Nat) : Int) := by
  have h : x &&& y < 2 ^ 8 := Nat.and_lt_two_pow x hy
  have e1 : x % 2 ^ 8 = x := Nat.mod_eq_of_lt hx
  have e2 : y % 2 ^ 8 = y := Nat.mod_eq_of_lt hy
  have e : (BitVec.ofInt 8 (x : Int) &&& BitVec.ofInt 8 (y : Int)).toNat = x &&& y := by
    rw [BitVec.toNat_and, BitVec.ofInt_natCast, BitVec.ofInt_natCast, BitVec.toNat_ofNat, BitVec.toNat_ofNat, e1, e2]
  show IntKind.wrap .u8 ((BitVec.ofInt 8 (x : Int) &&& BitVec.ofInt 8 (y : Int)).toNat : Int) = _
  rw [e, IntWalk.u8_in _ ⟨by omega, by omega⟩]
theorem bits_or_u8 {x y : Nat} (hx : x < 256) (hy : y < 256) : bits .or .u8 (x : Int) (y : Int) = ((x ||| y : Nat) : Int) := by
  have h : x ||| y < 2 ^ 8 := Nat.or_lt_two_pow hx hy
  have e1 : x % 2 ^ 8 = x := Nat.mod_eq_of_lt hx
  have e2 : y % 2 ^ 8 = y := Nat.mod_eq_of_lt hy
  have e : (BitVec.ofInt 8 (x : Int) ||| BitVec.ofInt 8 (y : Int)).toNat = x ||| y := by
    rw [BitVec.toNat_or, BitVec.ofInt_natCast, BitVec.ofInt_natCast, BitVec.toNat_ofNat, BitVec.toNat_ofNat, e1, e2]
  show IntKind.wrap .u8 ((BitVec.ofInt 8 (x : Int) ||| BitVec.ofInt 8 (y : Int)).toNat : Int) = _
  rw [e, IntWalk.u8_in _ ⟨by omega, by omega⟩]
theorem xor_lt {x y : Nat} (hx : x < 256) (hy : y < 256) : x ^^^ y < 256 := Nat.xor_lt_two_pow (n := 8) hx hy

/-! ### Twice, Mul, Inv as the code reckons them -/
/-- A byte times x. -/
def tw (n : Nat) : Nat := if n < 128 then n * 2 else (n * 2 % 256) ^^^ 27
/-- The loop of the product, with so many rounds left. -/
def mulS : Nat → Nat → Nat → Nat → Nat
  | 0, _, _, s => s
  | n + 1, a, b, s => mulS n (tw a) (b / 2) (if b % 2 = 1 then s ^^^ a else s)
/-- A product. -/
def mul (a b : Nat) : Nat := mulS 8 a b 0
/-- The loop of the inverse. -/
def invS : Nat → Nat → Nat → Nat
  | 0, _, p => p
  | n + 1, b, p => invS n (mul b b) (mul p (mul b b))
def inv (b : Nat) : Nat := invS 7 b 1

theorem tw_lt {n : Nat} (h : n < 256) : tw n < 256 := by
  unfold tw; split
  · omega
  · exact xor_lt (by omega) (by omega)
theorem mulS_lt : ∀ (n a b s : Nat), a < 256 → s < 256 → mulS n a b s < 256
  | 0, _, _, _, _, hs => hs
  | n + 1, a, b, s, ha, hs => by
    unfold mulS
    refine mulS_lt n _ _ _ (tw_lt ha) ?_
    split
    · exact xor_lt hs ha
    · exact hs
theorem mul_lt {a b : Nat} (h : a < 256) : mul a b < 256 := mulS_lt 8 a b 0 h (by omega)
theorem mulS_zero : ∀ (n a s : Nat), mulS n a 0 s = s
  | 0, _, _ => rfl
  | n + 1, a, s => by unfold mulS; simp [mulS_zero n]
theorem invS_lt : ∀ (n b p : Nat), b < 256 → p < 256 → invS n b p < 256
  | 0, _, _, _, hp => hp
  | n + 1, b, p, hb, hp => by unfold invS; exact invS_lt n _ _ (mul_lt hb) (mul_lt hp)
theorem inv_lt {b : Nat} (h : b < 256) : inv b < 256 := invS_lt 7 b 1 h (by omega)

/-! ### The same on Go's integers -/
def twI (b : Int) : Int := (tw b.toNat : Nat)
def mulI (a b : Int) : Int := (mul a.toNat b.toNat : Nat)
def invI (b : Int) : Int := (inv b.toNat : Nat)
def xorI (a b : Int) : Int := (a.toNat ^^^ b.toNat : Nat)
theorem twI_bd {b : Int} (h1 : b ≤ 255) : 0 ≤ twI b ∧ twI b ≤ 255 := by
  have := tw_lt (n := b.toNat) (by omega); unfold twI; omega
theorem mulI_bd {a b : Int} (h1 : a ≤ 255) : 0 ≤ mulI a b ∧ mulI a b ≤ 255 := by
  have := mul_lt (a := a.toNat) (b := b.toNat) (by omega); unfold mulI; omega
theorem invI_bd {b : Int} (h1 : b ≤ 255) : 0 ≤ invI b ∧ invI b ≤ 255 := by
  have := inv_lt (b := b.toNat) (by omega); unfold invI; omega
theorem xorI_bd {a b : Int} (h1 : a ≤ 255) (h2 : b ≤ 255) : 0 ≤ xorI a b ∧ xorI a b ≤ 255 := by
  have := xor_lt (x := a.toNat) (y := b.toNat) (by omega) (by omega); unfold xorI; omega
theorem xorI_bits {a b : Int} (h0 : 0 ≤ a) (h1 : a ≤ 255) (g0 : 0 ≤ b) (g1 : b ≤ 255) : bits .xor .u8 a b = xorI a b := by
  have := bits_xor_u8 (x := a.toNat) (y := b.toNat) (by omega) (by omega)
  rw [Int.toNat_of_nonneg h0, Int.toNat_of_nonneg g0] at this; exact this

/-- The form in which the code's steps stand. -/
theorem twI_low {b : Int} (h0 : 0 ≤ b) (h1 : b < 128) : twI b = b * 2 := by
  unfold twI tw; rw [if_pos (by omega)]; omega
theorem twI_high {b : Int} (h0 : 128 ≤ b) (h1 : b ≤ 255) : twI b = bits .xor .u8 (b * 2 % 256) 27 := by
  unfold twI tw; rw [if_neg (by omega)]
  have := bits_xor_u8 (x := b.toNat * 2 % 256) (y := 27) (by omega) (by omega)
  rw [← this]; congr 1; omega
theorem top_low {b : Int} (h0 : 0 ≤ b) (h1 : b < 128) : bits .and .u8 b 128 = 0 := by
  have := bits_and_u8 (x := b.toNat) (y := 128) (by omega) (by omega)
  rw [Int.toNat_of_nonneg h0] at this
  rw [show (128 : Int) = ((128 : Nat) : Int) from rfl, this]
  have h : ∀ n : Fin 128, (n.val &&& 128) = 0 := by decide +kernel
  rw [h ⟨b.toNat, by omega⟩]; rfl
theorem top_high {b : Int} (h0 : 128 ≤ b) (h1 : b ≤ 255) : bits .and .u8 b 128 = 128 := by
  have := bits_and_u8 (x := b.toNat) (y := 128) (by omega) (by omega)
  rw [Int.toNat_of_nonneg (by omega)] at this
  rw [show (128 : Int) = ((128 : Nat) : Int) from rfl, this]
  have h : ∀ n : Fin 128, ((n.val + 128) &&& 128) = 128 := by decide +kernel
  have := h ⟨b.toNat - 128, by omega⟩
  simp only at this
  rw [Nat.sub_add_cancel (by omega)] at this
  rw [this]
theorem low_bit {b : Int} (h0 : 0 ≤ b) (h1 : b ≤ 255) : bits .and .u8 b 1 = b % 2 := by
  have := bits_and_u8 (x := b.toNat) (y := 1) (by omega) (by omega)
  rw [Int.toNat_of_nonneg h0, Nat.and_one_is_mod] at this
  rw [show (1 : Int) = ((1 : Nat) : Int) from rfl, this]; omega

/-! ### Products are bilinear -/
theorem tw_is {n : Nat} (h : n < 256) : tw n = (n <<< 1) ^^^ (if n >>> 7 = 1 then 283 else 0) := by
  have t : ∀ a : Fin 256, tw a.val = (a.val <<< 1) ^^^ (if a.val >>> 7 = 1 then 283 else 0) := by decide +kernel
  exact t ⟨n, h⟩
theorem xor4 (a b c d : Nat) : (a ^^^ b) ^^^ (c ^^^ d) = (a ^^^ c) ^^^ (b ^^^ d) := by
  rw [Nat.xor_assoc, ← Nat.xor_assoc b c d, Nat.xor_comm b c, Nat.xor_assoc c b d, ← Nat.xor_assoc]
theorem top_bit {n : Nat} (h : n < 256) : n >>> 7 = 0 ∨ n >>> 7 = 1 := by rw [Nat.shiftRight_eq_div_pow]; omega
theorem tw_xor {x y : Nat} (hx : x < 256) (hy : y < 256) : tw (x ^^^ y) = tw x ^^^ tw y := by
  rw [tw_is hx, tw_is hy, tw_is (xor_lt hx hy), Nat.shiftLeft_xor_distrib, Nat.shiftRight_xor_distrib, xor4]
  congr 1
  rcases top_bit hx with a | a <;> rcases top_bit hy with b | b <;> rw [a, b] <;> rfl
end Go.Proofs.Ytfjbehobpkmjbaa

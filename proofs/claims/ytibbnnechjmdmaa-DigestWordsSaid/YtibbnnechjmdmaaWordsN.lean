/- Plain mathematics of one word more in a piece: which of the schedule's words hang on it. Conditions: the piece's bytes are bytes, the word's number is below 16. -/
import Derived.Test.YtibbnnechjmdmaaDigNum
namespace Go.Proofs.Ytibbnnechjmdmaa
open Go

theorem rr_bits {x n : Nat} (h0 : 1 ≤ n) (hn : n ≤ 31) (hx : x < 4294967296) (i : Nat) : (rr x n).testBit i = if i < 32 then (if 32 - n ≤ i then x.testBit (i - (32 - n)) else x.testBit (i + n)) else false := by
  rw [← rr_or hx h0 hn, Nat.testBit_or, ← Nat.shiftRight_eq_div_pow, Nat.testBit_shiftRight, ← Nat.shiftLeft_eq, show (4294967296 : Nat) = 2 ^ 32 from rfl, Nat.testBit_mod_two_pow, Nat.testBit_shiftLeft]
  have hb : ∀ j, 32 ≤ j → x.testBit j = false := fun j hj => Nat.testBit_lt_two_pow (Nat.lt_of_lt_of_le hx (Nat.pow_le_pow_right (by omega) hj : (2 : Nat) ^ 32 ≤ 2 ^ j))
  by_cases h1 : i < 32
  · by_cases h2 : 32 - n ≤ i
    · simp [h1, h2, hb (n + i) (by omega)]
    · simp [h1, h2, Nat.add_comm]
  · simp [h1, hb (n + i) (by omega)]
theorem rr_xor {x y n : Nat} (h0 : 1 ≤ n) (hn : n ≤ 31) (hx : x < 4294967296) (hy : y < 4294967296) : rr (x ^^^ y) n = rr x n ^^^ rr y n := by
  apply Nat.eq_of_testBit_eq
  intro i
  simp only [Nat.testBit_xor, rr_bits h0 hn (xor32_lt hx hy), rr_bits h0 hn hx, rr_bits h0 hn hy]
  split
  · split <;> rfl
  · rfl
theorem div_xor (x y k : Nat) : (x ^^^ y) / 2 ^ k = x / 2 ^ k ^^^ y / 2 ^ k := by
  rw [← Nat.shiftRight_eq_div_pow, ← Nat.shiftRight_eq_div_pow, ← Nat.shiftRight_eq_div_pow, Nat.shiftRight_xor_distrib]
theorem xor_swap (a b c d e f : Nat) : (a ^^^ b) ^^^ (c ^^^ d) ^^^ (e ^^^ f) = (a ^^^ c ^^^ e) ^^^ (b ^^^ d ^^^ f) := by
  apply Nat.eq_of_testBit_eq; intro i
  simp only [Nat.testBit_xor]
  cases a.testBit i <;> cases b.testBit i <;> cases c.testBit i <;> cases d.testBit i <;> cases e.testBit i <;> cases f.testBit i <;> rfl
theorem earW_xor {x y : Nat} (hx : x < 4294967296) (hy : y < 4294967296) : earW (x ^^^ y) = earW x ^^^ earW y := by
  unfold earW
  rw [rr_xor (by omega) (by omega) hx hy, rr_xor (by omega) (by omega) hx hy, div_xor, xor_swap]
theorem latW_xor {x y : Nat} (hx : x < 4294967296) (hy : y < 4294967296) : latW (x ^^^ y) = latW x ^^^ latW y := by
  unfold latW
  rw [rr_xor (by omega) (by omega) hx hy, rr_xor (by omega) (by omega) hx hy, div_xor, xor_swap]
theorem ear_small : ∀ d, d < 256 → d ≠ 0 → earW d ≠ 0 := by decide +kernel
theorem lat_small : ∀ d, d < 256 → d ≠ 0 → latW d ≠ 0 := by decide +kernel
theorem xor_low {x y : Nat} (h : x / 256 = y / 256) : x ^^^ y < 256 := by
  have := div_xor x y 8
  rw [show (2 : Nat) ^ 8 = 256 from rfl, h, Nat.xor_self] at this
  omega
theorem xor_ne {x y : Nat} (h : x ≠ y) : x ^^^ y ≠ 0 := fun e => h (by
  have : x ^^^ y ^^^ y = y := by rw [e, Nat.zero_xor]
  rwa [Nat.xor_assoc, Nat.xor_self, Nat.xor_zero] at this)
theorem earW_ne {x y : Nat} (hx : x < 4294967296) (hy : y < 4294967296) (h : x / 256 = y / 256) (hn : x ≠ y) : earW x ≠ earW y := fun e => by
  have := earW_xor hx hy
  rw [e, Nat.xor_self] at this
  exact ear_small _ (xor_low h) (xor_ne hn) this
theorem latW_ne {x y : Nat} (hx : x < 4294967296) (hy : y < 4294967296) (h : x / 256 = y / 256) (hn : x ≠ y) : latW x ≠ latW y := fun e => by
  have := latW_xor hx hy
  rw [e, Nat.xor_self] at this
  exact lat_small _ (xor_low h) (xor_ne hn) this
theorem add32_left {a b c : Nat} (hb : b < 4294967296) (hc : c < 4294967296) (h : b ≠ c) : add32 a b ≠ add32 a c := by unfold add32; omega
theorem add32_right {a b c : Nat} (hb : b < 4294967296) (hc : c < 4294967296) (h : b ≠ c) : add32 b a ≠ add32 c a := by unfold add32; omega

/-- A piece whose word k is one more, in its last byte. -/
def bump (f : Nat → Nat) (k : Nat) : Nat → Nat := fun j => if j = 4 * k + 3 then (f j + 1) % 256 else f j
theorem bump_lt {f : Nat → Nat} (hf : ∀ i, i < 64 → f i < 256) (k : Nat) : ∀ i, i < 64 → bump f k i < 256 := fun i hi => by
  unfold bump; split
  · exact Nat.mod_lt _ (by omega)
  · exact hf i hi
theorem beW_bump {f : Nat → Nat} {k n : Nat} (h : n ≠ k) : beW (bump f k) n = beW f n := by
  unfold beW bump
  rw [if_neg (by omega), if_neg (by omega), if_neg (by omega), if_neg (by omega)]
theorem beW_same (f : Nat → Nat) (k : Nat) : beW (bump f k) k = f (4 * k) * 16777216 + f (4 * k + 1) * 65536 + f (4 * k + 2) * 256 + (f (4 * k + 3) + 1) % 256 := by
  unfold beW bump
  rw [if_neg (by omega), if_neg (by omega), if_neg (by omega), if_pos rfl]
theorem beW_ne {f : Nat → Nat} {k : Nat} (hf : ∀ i, i < 64 → f i < 256) (hk : k < 16) : beW (bump f k) k ≠ beW f k := by
  rw [beW_same]; unfold beW
  have := hf (4 * k + 3) (by omega)
  omega
theorem beW_high {f : Nat → Nat} {k : Nat} (hf : ∀ i, i < 64 → f i < 256) (hk : k < 16) : beW (bump f k) k / 256 = beW f k / 256 := by
  rw [beW_same]; unfold beW
  have := hf (4 * k + 3) (by omega)
  omega
theorem sch_low (f : Nat → Nat) {n : Nat} (h : n < 16) : schT f 64 n = beW f n := by
  rw [schT_at f (show n < 64 by omega)]; unfold nextW; rw [if_pos h]
theorem sch_16 (f : Nat → Nat) : schT f 64 16 = add32 (add32 (add32 (latW (beW f 14)) (beW f 9)) (earW (beW f 1))) (beW f 0) := by
  have e : ∀ n, n < 16 → schT f 16 n = beW f n := fun n h => by rw [schT_at f h]; unfold nextW; rw [if_pos h]
  rw [schT_at f (show 16 < 64 by omega)]; unfold nextW
  rw [if_neg (by omega), e 14 (by omega), e 9 (by omega), e 1 (by omega), e 0 (by omega)]
theorem sch_16_same {f : Nat → Nat} {k : Nat} (h0 : k ≠ 0) (h1 : k ≠ 1) (h9 : k ≠ 9) (h14 : k ≠ 14) : schT (bump f k) 64 16 = schT f 64 16 := by
  rw [sch_16, sch_16, beW_bump (Ne.symm h0), beW_bump (Ne.symm h1), beW_bump (Ne.symm h9), beW_bump (Ne.symm h14)]
theorem sch_16_ne {f : Nat → Nat} {k : Nat} (hf : ∀ i, i < 64 → f i < 256) (h : k = 0 ∨ k = 1 ∨ k = 9 ∨ k = 14) : schT (bump f k) 64 16 ≠ schT f 64 16 := by
  have hb := bump_lt hf k
  have l : ∀ n, n < 16 → beW f n < 4294967296 := fun n hn => beW_lt hf hn
  have l' : ∀ n, n < 16 → beW (bump f k) n < 4294967296 := fun n hn => beW_lt hb hn
  rw [sch_16, sch_16]
  rcases h with rfl | rfl | rfl | rfl
  · rw [beW_bump (n := 1) (by omega), beW_bump (n := 9) (by omega), beW_bump (n := 14) (by omega)]
    exact add32_left (l' 0 (by omega)) (l 0 (by omega)) (beW_ne hf (by omega))
  · rw [beW_bump (n := 0) (by omega), beW_bump (n := 9) (by omega), beW_bump (n := 14) (by omega)]
    exact add32_right (add32_lt _ _) (add32_lt _ _) (add32_left (earW_lt (l' 1 (by omega))) (earW_lt (l 1 (by omega))) (earW_ne (l' 1 (by omega)) (l 1 (by omega)) (beW_high hf (by omega)) (beW_ne hf (by omega))))
  · rw [beW_bump (n := 0) (by omega), beW_bump (n := 1) (by omega), beW_bump (n := 14) (by omega)]
    exact add32_right (add32_lt _ _) (add32_lt _ _) (add32_right (add32_lt _ _) (add32_lt _ _) (add32_left (l' 9 (by omega)) (l 9 (by omega)) (beW_ne hf (by omega))))
  · rw [beW_bump (n := 0) (by omega), beW_bump (n := 1) (by omega), beW_bump (n := 9) (by omega)]
    exact add32_right (add32_lt _ _) (add32_lt _ _) (add32_right (add32_lt _ _) (add32_lt _ _) (add32_right (latW_lt (l' 14 (by omega))) (latW_lt (l 14 (by omega))) (latW_ne (l' 14 (by omega)) (l 14 (by omega)) (beW_high hf (by omega)) (beW_ne hf (by omega)))))
end Go.Proofs.Ytibbnnechjmdmaa

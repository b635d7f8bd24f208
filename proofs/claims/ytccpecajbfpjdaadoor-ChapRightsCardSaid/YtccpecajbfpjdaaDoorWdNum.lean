/- Plain mathematics of numbers as bytes: a number's bytes, highest first, and the number of bytes; where rows begin. Condition: the bytes are bytes. -/
import Derived.Test.YtccpecajbfpjdaaDoorWdBase
namespace Go.Proofs.YtccpecajbfpjdaaDoor
open Go Go.RowKit

/-- Byte i of a number, from the lowest on. -/
def dig (n : Int) (i : Nat) : Nat := (n / 256 ^ i % 256).toNat
theorem dig_lt (n : Int) (i : Nat) : dig n i < 256 := by unfold dig; omega
theorem dig_int (n : Int) (i : Nat) : n / 256 ^ i % 256 = (dig n i : Nat) := by unfold dig; omega
theorem dig_shift (n : Int) (i : Nat) : n / 2 ^ (8 * i) % 256 = (dig n i : Nat) := by
  rw [← dig_int, Int.pow_mul]; rfl
/-- A number's bytes, the highest first. -/
def numF (s : Nat) (n : Int) : Nat → Nat := fun j => dig n (s - 1 - j)
theorem numF_lt (s : Nat) (n : Int) (j : Nat) : numF s n j < 256 := dig_lt _ _
/-- The number that bytes are. -/
def valN : Nat → (Nat → Nat) → Nat
  | 0, _ => 0
  | k + 1, g => valN k g * 256 + g k
theorem valN_lt {g : Nat → Nat} : ∀ (k : Nat), (∀ i, i < k → g i < 256) → valN k g < 256 ^ k
  | 0, _ => by simp [valN]
  | k + 1, h => by
    have := valN_lt k (fun i hi => h i (by omega))
    have hk := h k (by omega)
    rw [Nat.pow_succ]; show valN k g * 256 + g k < _; omega
theorem valN_ext {g g' : Nat → Nat} : ∀ (k : Nat), (∀ i, i < k → g i = g' i) → valN k g = valN k g'
  | 0, _ => rfl
  | k + 1, h => by unfold valN; rw [valN_ext k (fun i hi => h i (by omega)), h k (by omega)]
/-- The bytes of the number that bytes are. -/
theorem valN_dig {g : Nat → Nat} : ∀ (k : Nat), (∀ i, i < k → g i < 256) → ∀ j, j < k → valN k g / 256 ^ (k - 1 - j) % 256 = g j
  | 0, _, j, hj => absurd hj (Nat.not_lt_zero _)
  | k + 1, h, j, hj => by
    have hk := h k (by omega)
    by_cases e : j = k
    · subst e
      rw [show j + 1 - 1 - j = 0 by omega, Nat.pow_zero, Nat.div_one]; show (valN j g * 256 + g j) % 256 = _; omega
    · have ih := valN_dig k (fun i hi => h i (by omega)) j (by omega)
      rw [show k + 1 - 1 - j = (k - 1 - j) + 1 by omega, Nat.pow_succ, Nat.mul_comm, ← Nat.div_div_eq_div_mul]
      have : valN (k + 1) g / 256 = valN k g := by show (valN k g * 256 + g k) / 256 = _; omega
      rw [this]; exact ih
theorem numF_val {g : Nat → Nat} {s : Nat} (h : ∀ i, i < s → g i < 256) {j : Nat} (hj : j < s) : numF s (valN s g : Nat) j = g j := by
  have := valN_dig s h j hj
  unfold numF dig
  have e : ((valN s g : Nat) : Int) / 256 ^ (s - 1 - j) % 256 = ((valN s g / 256 ^ (s - 1 - j) % 256 : Nat) : Int) := by
    rw [Int.natCast_emod, Int.natCast_ediv, Int.natCast_pow]; rfl
  rw [e, this]; rfl
/-- A number cut to 64 bits has the same eight bytes. -/
theorem dig_cut (n m : Int) (h : n % 18446744073709551616 = m % 18446744073709551616) {i : Nat} (hi : i < 8) : dig n i = dig m i := by
  unfold dig
  match i, hi with
  | 0, _ => simp; omega
  | 1, _ => simp; omega
  | 2, _ => simp; omega
  | 3, _ => simp; omega
  | 4, _ => simp; omega
  | 5, _ => simp; omega
  | 6, _ => simp; omega
  | 7, _ => simp; omega
theorem wrap_mod (z : Int) : IntKind.i64.wrap z % 18446744073709551616 = z % 18446744073709551616 := by
  rw [IntKind.wrap_i64]; omega
theorem numF_wrap {s : Nat} (hs : s ≤ 8) (z : Int) {j : Nat} (hj : j < s) : numF s (IntKind.i64.wrap z) j = numF s z j := dig_cut _ _ (wrap_mod z) (by omega)
/-- What a number of a size is taken as again. -/
theorem valN_numF (n : Int) : ∀ (s k : Nat), k ≤ s → ((valN k (numF s n) : Nat) : Int) = n / 256 ^ (s - k) % 256 ^ k
  | s, 0, _ => by rw [Int.pow_zero, Int.emod_one]; rfl
  | s, k + 1, hk => by
    have ih := valN_numF n s k (by omega)
    have e1 : s - k = (s - (k + 1)) + 1 := by omega
    show (((valN k (numF s n)) * 256 + numF s n k : Nat) : Int) = _
    rw [Int.natCast_add, Int.natCast_mul, ih]
    have e2 : ((numF s n k : Nat) : Int) = n / 256 ^ (s - (k + 1)) % 256 := by
      unfold numF; rw [show s - 1 - k = s - (k + 1) by omega, dig_int]
    rw [e2, e1, Int.pow_succ, ← Int.ediv_ediv_of_nonneg (Int.pow_nonneg (by omega))]
    generalize n / 256 ^ (s - (k + 1)) = m
    rw [Int.pow_succ (256 : Int) k]
    have hp : (0 : Int) < 256 ^ k := Int.pow_pos (by omega)
    generalize (256 : Int) ^ k = q at *
    have h1 := Int.mul_ediv_add_emod (m / 256) q
    have h2 := Int.emod_nonneg (m / 256) (show q ≠ 0 by omega)
    have h3 := Int.emod_lt_of_pos (m / 256) hp
    have h4 : m = (q * 256) * (m / 256 / q) + (m / 256 % q * 256 + m % 256) := by
      have := Int.mul_ediv_add_emod m 256
      have e : (q * 256) * (m / 256 / q) = 256 * (q * (m / 256 / q)) := by rw [Int.mul_comm q 256, Int.mul_assoc]
      omega
    have h5 : 0 ≤ m / 256 % q * 256 + m % 256 := by omega
    have h6 : m / 256 % q * 256 + m % 256 < q * 256 := by omega
    have h7 : m % (q * 256) = (m / 256 % q * 256 + m % 256) := by
      conv => lhs; rw [h4]
      rw [Int.add_comm, Int.add_mul_emod_self_left]
      exact Int.emod_eq_of_lt h5 h6
    exact h7.symm
theorem val_back (s : Nat) (n : Int) : ((valN s (numF s n) : Nat) : Int) = n % 256 ^ s := by
  rw [valN_numF n s s (Nat.le_refl _), Nat.sub_self]; simp
/-- Shifted by a byte and joined with one: 64 bits. -/
theorem shl_or {v x : Nat} (hx : x < 256) : bits .or .i64 (IntKind.i64.wrap ((v : Int) * 256)) (x : Int) = IntKind.i64.wrap (((v * 256 + x : Nat)) : Int) := by
  have e64 : ((2 ^ 64 : Nat) : Int) = 18446744073709551616 := by decide +kernel
  have e1 : (BitVec.ofInt 64 (IntKind.i64.wrap ((v : Int) * 256))).toNat = v * 256 % 2 ^ 64 := by
    rw [BitVec.toNat_ofInt]
    have := wrap_mod ((v : Int) * 256)
    rw [e64, this]; omega
  have e2 : (BitVec.ofInt 64 (x : Int)).toNat = x := by rw [BitVec.toNat_ofInt, e64]; omega
  have e : (BitVec.ofInt 64 (IntKind.i64.wrap ((v : Int) * 256)) ||| BitVec.ofInt 64 (x : Int)).toNat = v * 256 % 2 ^ 64 + x := by
    rw [BitVec.toNat_or, e1, e2]
    obtain ⟨a, ha⟩ : ∃ a, v * 256 % 2 ^ 64 = a * 256 := ⟨v * 256 % 2 ^ 64 / 256, by omega⟩
    rw [ha]
    have := Nat.shiftLeft_add_eq_or_of_lt (i := 8) (b := x) (by omega) a
    rw [Nat.shiftLeft_eq, show (2 : Nat) ^ 8 = 256 from rfl] at this
    omega
  show IntKind.wrap .i64 ((BitVec.ofInt 64 (IntKind.i64.wrap ((v : Int) * 256)) ||| BitVec.ofInt 64 (x : Int)).toNat : Int) = _
  rw [e, IntKind.wrap_i64, IntKind.wrap_i64]
  omega

/-! ### Rows -/
/-- The number of the two bytes at a place. -/
def lenAt (g : Nat → Nat) (p : Nat) : Nat := g p * 256 + g (p + 1)
/-- The rows that n bytes begin with: M of them, at places P 0, P 1 .., the last one's end is P M. -/
structure RowsOf (n : Nat) (g : Nat → Nat) (M : Nat) (P : Nat → Nat) : Prop where
  zero : P 0 = 0
  next : ∀ i, i < M → P (i + 1) = P i + 2 + lenAt g (P i)
  room : ∀ i, i < M → P i + 2 + lenAt g (P i) ≤ n
  stop : n < P M + 2 ∨ n < P M + 2 + lenAt g (P M)
theorem rows_from (n : Nat) (g : Nat → Nat) : ∀ (fuel p : Nat), n + 1 ≤ fuel + p → ∃ (M : Nat) (P : Nat → Nat), P 0 = p ∧ (∀ i, i < M → P (i + 1) = P i + 2 + lenAt g (P i)) ∧ (∀ i, i < M → P i + 2 + lenAt g (P i) ≤ n) ∧ (n < P M + 2 ∨ n < P M + 2 + lenAt g (P M))
  | 0, p, h => ⟨0, fun _ => p, rfl, fun i hi => absurd hi (Nat.not_lt_zero _), fun i hi => absurd hi (Nat.not_lt_zero _), .inl (by show n < p + 2; omega)⟩
  | f + 1, p, h => by
    by_cases hs : n < p + 2 ∨ n < p + 2 + lenAt g p
    · exact ⟨0, fun _ => p, rfl, fun i hi => absurd hi (Nat.not_lt_zero _), fun i hi => absurd hi (Nat.not_lt_zero _), hs⟩
    · obtain ⟨M, P, h0, h1, h2, h3⟩ := rows_from n g f (p + 2 + lenAt g p) (by omega)
      refine ⟨M + 1, fun i => match i with | 0 => p | i + 1 => P i, rfl, fun i hi => ?_, fun i hi => ?_, h3⟩
      · match i with
        | 0 => exact h0
        | i + 1 => exact h1 i (by omega)
      · match i with
        | 0 => show p + 2 + lenAt g p ≤ n; omega
        | i + 1 => exact h2 i (by omega)
theorem rows_are (n : Nat) (g : Nat → Nat) : ∃ (M : Nat) (P : Nat → Nat), RowsOf n g M P := by
  obtain ⟨M, P, h0, h1, h2, h3⟩ := rows_from n g (n + 1) 0 (by omega)
  exact ⟨M, P, h0, h1, h2, h3⟩
namespace RowsOf
variable {n : Nat} {g : Nat → Nat} {M : Nat} {P : Nat → Nat}
theorem most (h : RowsOf n g M P) : ∀ i, i ≤ M → 2 * i ≤ P i
  | 0, _ => by rw [h.zero]; omega
  | i + 1, hi => by have := h.most i (by omega); rw [h.next i (by omega)]; omega
theorem le (h : RowsOf n g M P) : ∀ i, i ≤ M → P i ≤ n
  | 0, _ => by rw [h.zero]; omega
  | i + 1, hi => by rw [h.next i (by omega)]; exact h.room i (by omega)
theorem count (h : RowsOf n g M P) : 2 * M ≤ n := Nat.le_trans (h.most M (Nat.le_refl _)) (h.le M (Nat.le_refl _))
end RowsOf
end Go.Proofs.YtccpecajbfpjdaaDoor

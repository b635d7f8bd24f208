/- Plain mathematics of the constants: numbers as lists of sixteen bits each, their products and their order; roots by bits; the first primes. Conditions: as each lemma says. -/
import Derived.Test.YtibbnnechjmdmaaDoorDigNum
namespace Go.Proofs.YtibbnnechjmdmaaDoor
open Go

/-- The number that n places tell, the lowest first. -/
def val (f : Nat → Nat) : Nat → Nat
  | 0 => 0
  | n + 1 => val f n + f n * 65536 ^ n
theorem val_succ (f : Nat → Nat) (n : Nat) : val f (n + 1) = val f n + f n * 65536 ^ n := rfl
theorem val_congr {f g : Nat → Nat} : ∀ {n : Nat}, (∀ j, j < n → f j = g j) → val f n = val g n
  | 0, _ => rfl
  | n + 1, h => by rw [val_succ, val_succ, val_congr fun j hj => h j (by omega), h n (by omega)]
theorem val_zero : ∀ n, val zeroK n = 0
  | 0 => rfl
  | n + 1 => by rw [val_succ, val_zero n]; show 0 + 0 * _ = 0; rw [Nat.zero_mul]
theorem upd_same (f : Nat → Nat) (i v : Nat) : upd f i v i = v := if_pos rfl
theorem upd_other (f : Nat → Nat) {i j : Nat} (v : Nat) (h : j ≠ i) : upd f i v j = f j := if_neg h
theorem val_upd {f : Nat → Nat} {i v : Nat} : ∀ {n : Nat}, i < n → val (upd f i v) n + f i * 65536 ^ i = val f n + v * 65536 ^ i
  | 0, h => by omega
  | n + 1, h => by
    rw [val_succ, val_succ]
    by_cases e : i = n
    · subst e
      rw [upd_same, val_congr (f := upd f i v) (g := f) (n := i) fun j hj => upd_other f v (by omega)]
      omega
    · have := val_upd (f := f) (i := i) (v := v) (n := n) (by omega)
      rw [upd_other f v (fun h => e h.symm)]
      omega
theorem val_ext {f : Nat → Nat} {n : Nat} : ∀ {m : Nat}, (∀ j, n ≤ j → j < n + m → f j = 0) → val f (n + m) = val f n
  | 0, _ => rfl
  | m + 1, h => by
    rw [← Nat.add_assoc, val_succ, val_ext fun j h1 h2 => h j h1 (by omega), h (n + m) (by omega) (by omega), Nat.zero_mul, Nat.add_zero]
theorem val_lt {f : Nat → Nat} : ∀ {n : Nat}, (∀ j, j < n → f j < 65536) → val f n < 65536 ^ n
  | 0, _ => by show (0 : Nat) < 1; omega
  | n + 1, h => by
    have h1 := val_lt (n := n) fun j hj => h j (by omega)
    have h2 := h n (by omega)
    have h3 : (f n + 1) * 65536 ^ n ≤ 65536 * 65536 ^ n := Nat.mul_le_mul_right _ (by omega)
    rw [Nat.add_mul, Nat.one_mul] at h3
    rw [val_succ, Nat.pow_succ, Nat.mul_comm (65536 ^ n)]
    omega
/-- The highest place that differs decides. -/
theorem val_less {f g : Nat → Nat} {i : Nat} (hf : ∀ j, f j < 65536) (hi : f i < g i) : ∀ {n : Nat}, i < n → (∀ j, i < j → j < n → f j = g j) → val f n < val g n
  | 0, h, _ => by omega
  | n + 1, h, he => by
    rw [val_succ, val_succ]
    by_cases e : i = n
    · subst e
      have h1 := val_lt (n := i) fun j _ => hf j
      have h3 : (f i + 1) * 65536 ^ i ≤ g i * 65536 ^ i := Nat.mul_le_mul_right _ hi
      rw [Nat.add_mul, Nat.one_mul] at h3
      omega
    · have := val_less hf hi (n := n) (by omega) fun j h1 h2 => he j h1 (by omega)
      rw [he n (by omega) (by omega)]
      omega

/-- One product more, in row i. -/
theorem row_step {F a b : Nat → Nat} {i k c V0 L n : Nat} (hL : i + k < L) (h : val F L + c * 65536 ^ (i + k) = V0 + a i * val b k * 65536 ^ i) (hn : F (i + k) + a i * b k + c = n) :
    val (upd F (i + k) (n % 65536)) L + n / 65536 * 65536 ^ (i + (k + 1)) = V0 + a i * val b (k + 1) * 65536 ^ i := by
  have h1 := val_upd (f := F) (v := n % 65536) hL
  have h2 : n / 65536 * 65536 ^ (i + (k + 1)) = 65536 * (n / 65536) * 65536 ^ (i + k) := by
    rw [← Nat.add_assoc, Nat.pow_succ, Nat.mul_comm (65536 ^ (i + k)) 65536, ← Nat.mul_assoc, Nat.mul_comm (n / 65536) 65536]
  have h3 : n % 65536 * 65536 ^ (i + k) + 65536 * (n / 65536) * 65536 ^ (i + k) = F (i + k) * 65536 ^ (i + k) + a i * b k * 65536 ^ (i + k) + c * 65536 ^ (i + k) := by
    rw [← Nat.add_mul, ← Nat.add_mul, ← Nat.add_mul, Nat.mod_add_div, hn]
  have h4 : a i * val b (k + 1) * 65536 ^ i = a i * val b k * 65536 ^ i + a i * b k * 65536 ^ (i + k) := by
    rw [val_succ, Nat.mul_add, Nat.add_mul, Nat.pow_add, Nat.mul_comm (65536 ^ i) (65536 ^ k), ← Nat.mul_assoc, ← Nat.mul_assoc]
  rw [h2, h4]
  omega
theorem row_end {F a b : Nat → Nat} {i m c L : Nat} (hL : i + m < L) (h : val F L + c * 65536 ^ (i + m) = val a i * val b m + a i * val b m * 65536 ^ i) :
    val (upd F (i + m) (F (i + m) + c)) L = val a (i + 1) * val b m := by
  have h1 := val_upd (f := F) (v := F (i + m) + c) hL
  rw [Nat.add_mul] at h1
  rw [val_succ, Nat.add_mul, Nat.mul_right_comm (a i)]
  omega
theorem row_small {x y o c : Nat} (hx : x < 65536) (hy : y < 65536) (ho : o < 65536) (hc : c < 65536) : (o + x * y + c) / 65536 < 65536 ∧ o + x * y + c < 18446744073709551616 := by
  have h1 : x * y ≤ 65535 * 65535 := Nat.mul_le_mul (by omega) (by omega)
  omega

/-- A number's three places. -/
def limb (n : Nat) : Nat → Nat := fun j => if j = 0 then n % 65536 else if j = 1 then n / 65536 % 65536 else n / 4294967296 % 65536
theorem limb_lt (n j : Nat) : limb n j < 65536 := by
  unfold limb; split
  · omega
  · split <;> omega
theorem limb_val {n : Nat} (h : n < 281474976710656) : val (limb n) 3 = n := by
  show 0 + limb n 0 * 65536 ^ 0 + limb n 1 * 65536 ^ 1 + limb n 2 * 65536 ^ 2 = n
  have e0 : limb n 0 = n % 65536 := rfl
  have e1 : limb n 1 = n / 65536 % 65536 := rfl
  have e2 : limb n 2 = n / 4294967296 % 65536 := rfl
  rw [e0, e1, e2, show (65536 : Nat) ^ 0 = 1 from rfl, show (65536 : Nat) ^ 1 = 65536 from rfl, show (65536 : Nat) ^ 2 = 4294967296 from rfl]
  omega
/-- A number behind so many noughts. -/
def high (m p : Nat) : Nat → Nat := fun j => if j = m then p else 0
theorem high_lt {m p : Nat} (hp : p < 65536) (j : Nat) : high m p j < 65536 := by unfold high; split <;> omega
theorem high_val (m p : Nat) : val (high m p) (m + 1) = p * 65536 ^ m := by
  have e : val (high m p) m = val zeroK m := val_congr fun j hj => if_neg (by omega)
  rw [val_succ, e, val_zero, Nat.zero_add]
  show high m p m * _ = _
  unfold high; rw [if_pos rfl]

/-- The greatest number whose power is at most t, bit by bit. -/
def desc (k t : Nat) : Nat → Nat → Nat
  | 0, x => x
  | s + 1, x => desc k t s (if (x + 2 ^ s) ^ k ≤ t then x + 2 ^ s else x)
theorem desc_step (k t s x : Nat) : desc k t (s + 1) x = desc k t s (if (x + 2 ^ s) ^ k ≤ t then x + 2 ^ s else x) := rfl
def rootN (k p : Nat) : Nat := desc k (p * 65536 ^ (2 * k)) 37 0 % 4294967296

/-- The primes among the first numbers. -/
def found : Nat → List Nat
  | 0 => []
  | p + 1 => if p < 2 then [] else if (found p).all (fun q => p % q != 0) then found p ++ [p] else found p
theorem found_on {p : Nat} (h : 2 ≤ p) : found (p + 1) = if (found p).all (fun q => p % q != 0) then found p ++ [p] else found p := by
  show (if p < 2 then [] else _) = _
  rw [if_neg (by omega)]
theorem found_two : found 2 = [] := rfl
def primeL : List Nat := found 312
set_option maxRecDepth 100000 in
theorem primeL_len : primeL.length = 64 := by decide +kernel
theorem found_prefix {p : Nat} (h : 2 ≤ p) : ∀ m, found p <+: found (p + m)
  | 0 => List.prefix_refl _
  | m + 1 => by
    refine (found_prefix h m).trans ?_
    rw [← Nat.add_assoc, found_on (by omega)]
    split
    · exact List.prefix_append _ _
    · exact List.prefix_refl _
theorem found_bound {p : Nat} (hl : (found p).length < 64) : p < 312 := by
  rcases Nat.lt_or_ge p 312 with h1 | h1
  · exact h1
  · have h2 := (found_prefix (p := 312) (by omega) (p - 312)).length_le
    rw [show 312 + (p - 312) = p by omega, show (found 312).length = 64 from primeL_len] at h2
    omega
theorem found_take {p n : Nat} (h : 2 ≤ p) (hp : p ≤ 312) (hn : (found p).length = n) : found p = primeL.take n := by
  have h1 := found_prefix h (312 - p)
  rw [show p + (312 - p) = 312 by omega] at h1
  rw [← hn]
  exact List.prefix_iff_eq_take.1 h1
set_option maxRecDepth 100000 in
theorem consts_all : ∀ i, i < 64 → rootN 3 (primeL.getD i 0) = tabK i := by decide +kernel
set_option maxRecDepth 100000 in
theorem begins_all : ∀ i, i < 8 → rootN 2 (primeL.getD i 0) = begK i := by decide +kernel
set_option maxRecDepth 100000 in
theorem primeL_lt : ∀ i, i < 64 → primeL.getD i 0 < 65536 := by decide +kernel
end Go.Proofs.YtibbnnechjmdmaaDoor

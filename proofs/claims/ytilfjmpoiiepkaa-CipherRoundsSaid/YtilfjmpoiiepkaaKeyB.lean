/- Plain mathematics of the field of blocks: halving undoes doubling and doubling halving; both keep sums. Condition: the bytes are bytes. -/
import Derived.Test.YtilfjmpoiiepkaaKey
namespace Go.Proofs.Ytilfjmpoiiepkaa
open Go

theorem half_there {x b : Nat} (hx : x < 256) (hb : b < 2) : ((x / 2) ^^^ (b * 128)) * 2 % 256 = x / 2 * 2 ∧ ((x / 2) ^^^ (b * 128)) / 128 = b := by
  have t : ∀ a : Fin 256, ∀ b : Fin 2, ((a.val / 2) ^^^ (b.val * 128)) * 2 % 256 = a.val / 2 * 2 ∧ ((a.val / 2) ^^^ (b.val * 128)) / 128 = b.val := by decide +kernel
  exact t ⟨x, hx⟩ ⟨b, hb⟩
theorem half_join {x : Nat} (hx : x < 256) : (x / 2 * 2) ^^^ (x % 2) = x := by
  have t : ∀ a : Fin 256, (a.val / 2 * 2) ^^^ (a.val % 2) = a.val := by decide +kernel
  exact t ⟨x, hx⟩
theorem hlv_parts {f : Nat → Nat} (h : IsKey f) {j : Nat} (hj : j < 16) : hlv f j * 2 % 256 = hin f j / 2 * 2 ∧ hlv f j / 128 * 128 = hcm f (j + 1) := by
  obtain ⟨b, hb, e⟩ := hcm_is f (j + 1)
  have t := half_there (hin_key h j hj) hb
  unfold hlv; rw [e]; exact ⟨t.1, by rw [t.2]⟩
theorem hin_first {f : Nat → Nat} : hin f 0 % 2 = 0 := by
  have e : hin f 0 = f 0 ^^^ (f 0 % 2 * 135) := rfl
  rw [e, show (2 : Nat) = 2 ^ 1 from rfl, Nat.xor_mod_two_pow]
  rcases (show f 0 % 2 = 0 ∨ f 0 % 2 = 1 by omega) with a | a
  · rw [show f 0 % 2 ^ 1 = 0 from a]; rfl
  · rw [show f 0 % 2 ^ 1 = 1 from a]; rfl
theorem dbl_hlv {f : Nat → Nat} (h : IsKey f) {j : Nat} (hj : j < 16) : dbl (hlv f) j = f j := by
  have p := hlv_parts h hj
  by_cases e : j = 0
  · subst e
    have p15 : hlv f 15 / 128 * 128 = hcm f 16 := (hlv_parts h (j := 15) (by omega)).2
    have t15 : hlv f 15 / 128 = f 0 % 2 := by
      have : hcm f 16 = f 0 % 2 * 128 := rfl
      omega
    have e0 : dbl (hlv f) 0 = (hlv f 0 * 2 % 256 ^^^ carry (hlv f) 0) ^^^ (hlv f 15 / 128 * 135) := rfl
    have c0 : carry (hlv f) 0 = 0 := rfl
    have hf := hin_first (f := f)
    rw [e0, c0, p.1, t15, Nat.xor_zero, show hin f 0 / 2 * 2 = hin f 0 by omega]
    show (f 0 ^^^ (f 0 % 2 * 135)) ^^^ (f 0 % 2 * 135) = f 0
    rw [Nat.xor_assoc, Nat.xor_self, Nat.xor_zero]
  · have e1 : dbl (hlv f) j = (hlv f j * 2 % 256) ^^^ carry (hlv f) j := by unfold dbl; rw [if_neg e]; rfl
    have c1 : carry (hlv f) j = hlv f (j - 1) / 128 := by unfold carry; rw [if_neg e]
    have q := (hlv_parts h (j := j - 1) (by omega)).2
    have hh : hcm f (j - 1 + 1) = hin f j * 128 % 256 := by unfold hcm; rw [if_neg (by omega), show j - 1 + 1 = j by omega]
    have hi : hin f j = f j := by unfold hin; rw [if_neg e]
    rw [e1, c1, p.1, show hlv f (j - 1) / 128 = hin f j % 2 by omega, hi]
    exact half_join (h j hj)

theorem twice_xor (x y : Nat) : (x ^^^ y) * 2 % 256 = (x * 2 % 256) ^^^ (y * 2 % 256) := by
  have e := Nat.shiftLeft_xor_distrib (a := x) (b := y) (i := 1)
  rw [Nat.shiftLeft_eq, Nat.shiftLeft_eq, Nat.shiftLeft_eq, Nat.pow_one] at e
  rw [e, show (256 : Nat) = 2 ^ 8 from rfl, Nat.xor_mod_two_pow]
theorem high_xor (x y : Nat) : (x ^^^ y) / 128 = (x / 128) ^^^ (y / 128) := by
  have e := Nat.shiftRight_xor_distrib (a := x) (b := y) (i := 7)
  rw [Nat.shiftRight_eq_div_pow, Nat.shiftRight_eq_div_pow, Nat.shiftRight_eq_div_pow] at e
  exact e
theorem low_xor (x y : Nat) : (x ^^^ y) * 128 % 256 = (x * 128 % 256) ^^^ (y * 128 % 256) := by
  have e := Nat.shiftLeft_xor_distrib (a := x) (b := y) (i := 7)
  rw [Nat.shiftLeft_eq, Nat.shiftLeft_eq, Nat.shiftLeft_eq] at e
  rw [show (128 : Nat) = 2 ^ 7 from rfl, e, show (256 : Nat) = 2 ^ 8 from rfl, Nat.xor_mod_two_pow]
theorem bit_mul {a b : Nat} (ha : a < 2) (hb : b < 2) (c : Nat) : (a ^^^ b) * c = (a * c) ^^^ (b * c) := by
  rcases (show a = 0 ∨ a = 1 by omega) with rfl | rfl <;> rcases (show b = 0 ∨ b = 1 by omega) with rfl | rfl <;> simp
theorem odd_xor (x y : Nat) : (x ^^^ y) % 2 = (x % 2) ^^^ (y % 2) := Nat.xor_mod_two_pow (n := 1)
theorem carry_xor (f g : Nat → Nat) (j : Nat) : carry (xorK f g) j = carry f j ^^^ carry g j := by
  unfold carry
  by_cases e : j = 0
  · rw [if_pos e, if_pos e, if_pos e]; rfl
  · rw [if_neg e, if_neg e, if_neg e]; exact high_xor _ _
theorem dbl0_xor (f g : Nat → Nat) (j : Nat) : dbl0 (xorK f g) j = dbl0 f j ^^^ dbl0 g j := by
  unfold dbl0; rw [carry_xor]; unfold xorK; rw [twice_xor, xor4]
theorem dbl_xor {f g : Nat → Nat} (hf : IsKey f) (hg : IsKey g) (j : Nat) : dbl (xorK f g) j = xorK (dbl f) (dbl g) j := by
  have a := hf 15 (by omega)
  have b := hg 15 (by omega)
  show dbl (xorK f g) j = dbl f j ^^^ dbl g j
  unfold dbl
  by_cases e : j = 0
  · rw [if_pos e, if_pos e, if_pos e, dbl0_xor, show xorK f g 15 / 128 = (f 15 / 128) ^^^ (g 15 / 128) from high_xor _ _, bit_mul (by omega) (by omega), xor4]
  · rw [if_neg e, if_neg e, if_neg e, dbl0_xor]
theorem hin_xor (f g : Nat → Nat) (j : Nat) : hin (xorK f g) j = hin f j ^^^ hin g j := by
  unfold hin
  by_cases e : j = 0
  · rw [if_pos e, if_pos e, if_pos e]
    show (f 0 ^^^ g 0) ^^^ ((f 0 ^^^ g 0) % 2 * 135) = _
    rw [odd_xor, bit_mul (by omega) (by omega), xor4]
  · rw [if_neg e, if_neg e, if_neg e]; rfl
theorem hcm_xor (f g : Nat → Nat) (m : Nat) : hcm (xorK f g) m = hcm f m ^^^ hcm g m := by
  unfold hcm
  by_cases e : m = 16
  · rw [if_pos e, if_pos e, if_pos e]
    show (f 0 ^^^ g 0) % 2 * 128 = _
    rw [odd_xor, bit_mul (by omega) (by omega)]
  · rw [if_neg e, if_neg e, if_neg e, hin_xor, low_xor]
theorem hlv_xor (f g : Nat → Nat) (j : Nat) : hlv (xorK f g) j = xorK (hlv f) (hlv g) j := by
  show hlv (xorK f g) j = hlv f j ^^^ hlv g j
  unfold hlv; rw [hin_xor, hcm_xor, xor_half, xor4]

/-! ### The document's own sums, bit by bit -/
def xorBit (f g : Nat → Nat) (i m : Nat) : Nat → Nat := fun j => if j < i then xorK f g j else if j = i then xorK f g i / 2 ^ m else 0
theorem xorBit_start {f g : Nat → Nat} {i : Nat} (hf : f i < 256) (hg : g i < 256) : mk 16 (xorBit f g i 8) = mk 16 (xorTo f g i) := mk_ext fun j _ => by
  have hx : xorK f g i < 256 := xor_lt hf hg
  unfold xorBit xorTo
  by_cases l : j < i
  · rw [if_pos l, if_pos l]
  · rw [if_neg l, if_neg l]
    by_cases e : j = i
    · rw [if_pos e]; omega
    · rw [if_neg e]
theorem xorBit_end (f g : Nat → Nat) (i : Nat) : mk 16 (xorBit f g i 0) = mk 16 (xorTo f g (i + 1)) := mk_ext fun j _ => by
  unfold xorBit xorTo
  by_cases l : j < i
  · rw [if_pos l, if_pos (by omega)]
  · rw [if_neg l]
    by_cases e : j = i
    · subst e; rw [if_pos rfl, if_pos (by omega), Nat.pow_zero, Nat.div_one]
    · rw [if_neg e, if_neg (by omega)]
theorem xorBit_at (f g : Nat → Nat) (i m : Nat) : xorBit f g i m i = xorK f g i / 2 ^ m := by unfold xorBit; rw [if_neg (by omega), if_pos rfl]
theorem half_step (x k : Nat) : x / 2 ^ k = x / 2 ^ (k + 1) * 2 + bt x k := by
  unfold bt
  have e : x / 2 ^ (k + 1) = x / 2 ^ k / 2 := by rw [Nat.pow_succ, Nat.div_div_eq_div_mul]
  omega
theorem xorBit_step (f g : Nat → Nat) (i k : Nat) {q x y : Nat} (hq : xorK f g i / 2 ^ (k + 1) = q) (hx : bt (f i) k = x) (hy : bt (g i) k = y) :
    (mk 16 (xorBit f g i (k + 1))).set i ((q : Int) * 2 + ((x : Int) + (y : Int)) % 2) = mk 16 (xorBit f g i k) := by
  refine mk_set_is (v := q * 2 + (x + y) % 2) (by simp) fun j _ => ?_
  subst hq hx hy
  by_cases e : j = i
  · subst e; rw [if_pos rfl, xorBit_at, ← bt_xor]; exact (half_step (f j ^^^ g j) k).symm
  · rw [if_neg e]; unfold xorBit
    by_cases l : j < i
    · rw [if_pos l, if_pos l]
    · rw [if_neg l, if_neg l, if_neg e, if_neg e]
theorem half_lt {x k : Nat} (h : x < 256) : x / 2 ^ (k + 1) < 128 := by
  have e : x / 2 ^ (k + 1) = x / 2 / 2 ^ k := by rw [Nat.pow_succ', Nat.div_div_eq_div_mul]
  have := Nat.div_le_self (x / 2) (2 ^ k)
  omega
end Go.Proofs.Ytilfjmpoiiepkaa

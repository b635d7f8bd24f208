/- Plain mathematics of the document's own product of bytes: bit by bit as polynomials, then what stands above x^7 replaced; it is the product that the code reckons. No condition. -/
import Derived.Test.YtfjbehobpkmjbaaNumB
namespace Go.Proofs.Ytfjbehobpkmjbaa
open Go

/-- A number's bit. -/
def bt (n i : Nat) : Nat := n / 2 ^ i % 2
theorem bt_lt (n i : Nat) : bt n i < 2 := Nat.mod_lt _ (by decide)
theorem bt_test (n i : Nat) : n.testBit i = decide (bt n i = 1) := Nat.testBit_eq_decide_div_mod_eq
theorem bt_of_test {m n i : Nat} (h : m.testBit i = n.testBit i) : bt m i = bt n i := by
  rw [bt_test, bt_test] at h
  have a := bt_lt m i; have b := bt_lt n i
  have := decide_eq_decide.1 h; omega
theorem bt_xor (m n i : Nat) : bt (m ^^^ n) i = (bt m i + bt n i) % 2 := by
  have h : (m ^^^ n).testBit i = (m.testBit i).xor (n.testBit i) := Nat.testBit_xor _ _ _
  rw [bt_test, bt_test, bt_test] at h
  have a := bt_lt m i; have b := bt_lt n i; have c := bt_lt (m ^^^ n) i
  rcases (show bt m i = 0 ∨ bt m i = 1 by omega) with e | e <;> rcases (show bt n i = 0 ∨ bt n i = 1 by omega) with f | f <;> rw [e, f] at h ⊢ <;> simp at h ⊢ <;> omega
theorem bt_shl_same (e j : Nat) (he : e < 2) : bt (e * 2 ^ j) j = e := by
  unfold bt; rw [Nat.mul_div_cancel _ (Nat.pow_pos (by decide))]; omega
theorem bt_shl_other (e j m : Nat) (he : e < 2) (h : m ≠ j) : bt (e * 2 ^ j) m = 0 := by
  have t : (e * 2 ^ j).testBit m = false := by
    rw [← Nat.shiftLeft_eq, Nat.testBit_shiftLeft]
    rcases Nat.lt_or_ge m j with h' | h'
    · simp; omega
    · have : m - j ≠ 0 := by omega
      obtain ⟨q, hq⟩ : ∃ q, m - j = q + 1 := ⟨m - j - 1, by omega⟩
      rw [hq]
      rcases (show e = 0 ∨ e = 1 by omega) with rfl | rfl <;> simp [Nat.testBit_succ]
  rw [bt_test] at t
  have := bt_lt (e * 2 ^ j) m; simp at t; omega

/-- The lowest so many bits, as a list of integers. -/
def bitsOf (len n : Nat) : List Int := (List.range len).map fun i => (bt n i : Int)
theorem bitsOf_len (len n : Nat) : (bitsOf len n).length = len := by simp [bitsOf]
theorem bitsOf_get (len n : Nat) {i : Nat} (h : i < len) : (bitsOf len n).getD i 0 = (bt n i : Int) := by
  simp [bitsOf, List.getD_eq_getElem?_getD, h]
theorem bitsOf_set (len n : Nat) {j e : Nat} (he : e < 2) {v : Int} (hv : v = ((bt n j + e) % 2 : Nat)) : (bitsOf len n).set j v = bitsOf len (n ^^^ (e * 2 ^ j)) := by
  subst hv
  apply List.ext_getElem
  · simp [bitsOf]
  · intro m h1 h2
    have hm : m < len := by simpa [bitsOf] using h2
    rw [List.getElem_set]
    by_cases h : j = m
    · subst h; rw [if_pos rfl]; simp only [bitsOf, List.getElem_map, List.getElem_range]; rw [bt_xor, bt_shl_same e j he]
    · rw [if_neg h]; simp only [bitsOf, List.getElem_map, List.getElem_range]
      rw [bt_xor, bt_shl_other e j m he (fun e => h e.symm), Nat.add_zero, Nat.mod_eq_of_lt (bt_lt n m)]

/-! ### The product -/
def rowP (a b i : Nat) : Nat → Nat → Nat
  | 0, p => p
  | k + 1, p => rowP a b i k p ^^^ (bt a i * bt b k * 2 ^ (i + k))
def allP (a b : Nat) : Nat → Nat
  | 0 => 0
  | i + 1 => rowP a b i 8 (allP a b i)
/-- Bit i replaced. -/
def cutP (i p : Nat) : Nat := if bt p i = 1 then p ^^^ (1 * 2 ^ i) ^^^ (1 * 2 ^ (i - 8)) ^^^ (1 * 2 ^ (i - 7)) ^^^ (1 * 2 ^ (i - 5)) ^^^ (1 * 2 ^ (i - 4)) else p
def redP : Nat → Nat → Nat
  | 0, p => p
  | n + 1, p => cutP (14 - n) (redP n p)
def refMul (a b : Nat) : Nat := redP 7 (allP a b 8) % 256

theorem mul_bt {x y : Nat} (hx : x < 2) (hy : y < 2) : x * y < 2 := by
  rcases (show x = 0 ∨ x = 1 by omega) with rfl | rfl <;> omega

theorem coef_right {x y z : Nat} (m : Nat) (hx : x < 2) (hy : y < 2) (hz : z < 2) : x * ((y + z) % 2) * 2 ^ m = (x * y * 2 ^ m) ^^^ (x * z * 2 ^ m) := by
  rcases (show x = 0 ∨ x = 1 by omega) with rfl | rfl <;> rcases (show y = 0 ∨ y = 1 by omega) with rfl | rfl <;> rcases (show z = 0 ∨ z = 1 by omega) with rfl | rfl <;> simp
theorem coef_left {x y z : Nat} (m : Nat) (hx : x < 2) (hy : y < 2) (hz : z < 2) : (y + z) % 2 * x * 2 ^ m = (y * x * 2 ^ m) ^^^ (z * x * 2 ^ m) := by
  rw [Nat.mul_comm ((y + z) % 2), Nat.mul_comm y, Nat.mul_comm z]; exact coef_right m hx hy hz
theorem rowP_from (a b i : Nat) : ∀ (k p : Nat), rowP a b i k p = p ^^^ rowP a b i k 0
  | 0, p => by simp [rowP]
  | k + 1, p => by unfold rowP; rw [rowP_from a b i k p, Nat.xor_assoc]
theorem rowP_right (a b c i : Nat) : ∀ (k : Nat), rowP a (b ^^^ c) i k 0 = rowP a b i k 0 ^^^ rowP a c i k 0
  | 0 => by simp [rowP]
  | k + 1 => by
    unfold rowP
    rw [rowP_right a b c i k, bt_xor, coef_right _ (bt_lt _ _) (bt_lt _ _) (bt_lt _ _), xor4]
theorem rowP_left (a b c i : Nat) : ∀ (k : Nat), rowP (a ^^^ b) c i k 0 = rowP a c i k 0 ^^^ rowP b c i k 0
  | 0 => by simp [rowP]
  | k + 1 => by
    unfold rowP
    rw [rowP_left a b c i k, bt_xor, coef_left _ (bt_lt _ _) (bt_lt _ _) (bt_lt _ _), xor4]
theorem allP_right (a b c : Nat) : ∀ (i : Nat), allP a (b ^^^ c) i = allP a b i ^^^ allP a c i
  | 0 => by simp [allP]
  | i + 1 => by
    unfold allP
    rw [rowP_from _ _ _ _ (allP a (b ^^^ c) i), rowP_from _ _ _ _ (allP a b i), rowP_from _ _ _ _ (allP a c i), allP_right a b c i, rowP_right, xor4]
theorem allP_left (a b c : Nat) : ∀ (i : Nat), allP (a ^^^ b) c i = allP a c i ^^^ allP b c i
  | 0 => by simp [allP]
  | i + 1 => by
    unfold allP
    rw [rowP_from _ _ _ _ (allP (a ^^^ b) c i), rowP_from _ _ _ _ (allP a c i), rowP_from _ _ _ _ (allP b c i), allP_left a b c i, rowP_left, xor4]
theorem cutP_is (i p : Nat) : cutP i p = p ^^^ (bt p i * ((1 * 2 ^ i) ^^^ (1 * 2 ^ (i - 8)) ^^^ (1 * 2 ^ (i - 7)) ^^^ (1 * 2 ^ (i - 5)) ^^^ (1 * 2 ^ (i - 4)))) := by
  unfold cutP
  rcases (show bt p i = 0 ∨ bt p i = 1 by have := bt_lt p i; omega) with e | e <;> rw [e] <;> simp [Nat.xor_assoc]
theorem cutP_xor (i p q : Nat) : cutP i (p ^^^ q) = cutP i p ^^^ cutP i q := by
  rw [cutP_is, cutP_is, cutP_is, bt_xor, xor4]
  congr 1
  generalize (1 * 2 ^ i ^^^ 1 * 2 ^ (i - 8) ^^^ 1 * 2 ^ (i - 7) ^^^ 1 * 2 ^ (i - 5) ^^^ 1 * 2 ^ (i - 4)) = c
  have a := bt_lt p i; have b := bt_lt q i
  rcases (show bt p i = 0 ∨ bt p i = 1 by omega) with e | e <;> rcases (show bt q i = 0 ∨ bt q i = 1 by omega) with f | f <;> rw [e, f] <;> simp
theorem redP_xor : ∀ (n p q : Nat), redP n (p ^^^ q) = redP n p ^^^ redP n q
  | 0, _, _ => rfl
  | n + 1, p, q => by unfold redP; rw [redP_xor n, cutP_xor]
theorem refMul_right (a b c : Nat) : refMul a (b ^^^ c) = refMul a b ^^^ refMul a c := by
  unfold refMul; rw [allP_right, redP_xor, show (256 : Nat) = 2 ^ 8 from rfl, Nat.xor_mod_two_pow]
theorem refMul_left (a b c : Nat) : refMul (a ^^^ b) c = refMul a c ^^^ refMul b c := by
  unfold refMul; rw [allP_left, redP_xor, show (256 : Nat) = 2 ^ 8 from rfl, Nat.xor_mod_two_pow]
theorem refMul_is {a b : Nat} (ha : a < 256) (hb : b < 256) : refMul a b = mul a b := by
  have base : ∀ i j : Fin 8, refMul (2 ^ i.val) (2 ^ j.val) = mul (2 ^ i.val) (2 ^ j.val) := by decide +kernel
  refine lin_ext (fun x => refMul x b) (fun x => mul x b) (fun x y _ _ => refMul_left x y b) (fun x y hx hy => mul_left b hx hy) (fun i hi => ?_) a ha
  exact lin_ext (fun y => refMul (2 ^ i) y) (fun y => mul (2 ^ i) y) (fun x y _ _ => refMul_right _ x y) (fun x y _ _ => mul_right _ x y) (fun j hj => base ⟨i, hi⟩ ⟨j, hj⟩) b hb
/-- Nothing stands above bit 7 in the end; the bits from the highest on make the number. -/
theorem low_step (p i : Nat) (hi : i < 8) : 2 * (p % 256 / 2 ^ (i + 1)) + bt p i = p % 256 / 2 ^ i := by
  unfold bt
  have e1 : p % 256 / 2 ^ (i + 1) = p % 256 / 2 ^ i / 2 := by rw [Nat.pow_succ, Nat.div_div_eq_div_mul]
  have e2 : p / 2 ^ i % 2 = p % 256 / 2 ^ i % 2 := by
    have e : p % 256 = p % 2 ^ 8 := rfl
    have t : p.testBit i = (p % 2 ^ 8).testBit i := by rw [Nat.testBit_mod_two_pow]; simp [hi]
    exact bt_of_test t
  omega
theorem bt_flip {p i m : Nat} (h : m ≠ i) : bt (p ^^^ (1 * 2 ^ i)) m = bt p m := by
  rw [bt_xor, bt_shl_other 1 i m (by omega) h, Nat.add_zero, Nat.mod_eq_of_lt (bt_lt p m)]
theorem flip_val (p i : Nat) : 1 - (bt p i : Int) = ((bt p i + 1) % 2 : Nat) := by have := bt_lt p i; omega
theorem cut_set {p j : Nat} (h8 : 8 ≤ j) (h0 : bt p j = 1) :
    (((((bitsOf 15 p).set j 0).set (j - 8) (1 - (bt p (j - 8) : Int))).set (j - 7) (1 - (bt p (j - 7) : Int))).set (j - 5) (1 - (bt p (j - 5) : Int))).set (j - 4) (1 - (bt p (j - 4) : Int)) = bitsOf 15 (cutP j p) := by
  rw [bitsOf_set 15 p (j := j) (e := 1) (by omega) (by rw [h0]; rfl),
    bitsOf_set 15 _ (j := j - 8) (e := 1) (by omega) (by rw [flip_val, bt_flip (by omega)]),
    bitsOf_set 15 _ (j := j - 7) (e := 1) (by omega) (by rw [flip_val, bt_flip (by omega), bt_flip (by omega)]),
    bitsOf_set 15 _ (j := j - 5) (e := 1) (by omega) (by rw [flip_val, bt_flip (by omega), bt_flip (by omega), bt_flip (by omega)]),
    bitsOf_set 15 _ (j := j - 4) (e := 1) (by omega) (by rw [flip_val, bt_flip (by omega), bt_flip (by omega), bt_flip (by omega), bt_flip (by omega)])]
  unfold cutP; rw [if_pos h0]
theorem cut_no {p j : Nat} (h0 : bt p j ≠ 1) : cutP j p = p := by unfold cutP; rw [if_neg h0]
theorem redP_step {n j : Nat} (h : n + j = 14) (x : Nat) : redP (n + 1) x = cutP j (redP n x) := by
  show cutP (14 - n) (redP n x) = _
  rw [show 14 - n = j by omega]
/-- What is left to add of the number when bits 7 .. are read. -/
theorem out_start (p : Nat) : p % 256 / 2 ^ 8 = 0 := by omega
theorem refMul_end (a b : Nat) : redP 7 (allP a b 8) % 256 / 2 ^ 0 = refMul a b := by unfold refMul; omega
theorem refI_is {a b : Int} (ha : a ≤ 255) (hb : b ≤ 255) : ((refMul a.toNat b.toNat : Nat) : Int) = mulI a b := by
  rw [refMul_is (by omega) (by omega)]; rfl
theorem out_bd {p m : Nat} {o : Int} (h : o = (p % 256 / 2 ^ m : Nat)) : 0 ≤ o ∧ o ≤ 255 := by
  have e := Nat.div_le_self (p % 256) (2 ^ m)
  generalize p % 256 / 2 ^ m = t at *
  omega
theorem out_step {p m q : Nat} {o : Int} (h1 : o = (p % 256 / 2 ^ (m + 1) : Nat)) (h2 : 2 * (p % 256 / 2 ^ (m + 1)) + q = p % 256 / 2 ^ m) : 2 * o + q = (p % 256 / 2 ^ m : Nat) := by
  rw [← h2, h1]; rfl
end Go.Proofs.Ytfjbehobpkmjbaa

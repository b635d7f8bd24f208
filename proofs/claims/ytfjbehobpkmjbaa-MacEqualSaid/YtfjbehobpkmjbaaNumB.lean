/- Plain mathematics of the field of bytes: products are bilinear, commutative and associative, and every byte but 0 has its inverse. No condition. -/
import Derived.Test.YtfjbehobpkmjbaaNum
namespace Go.Proofs.Ytfjbehobpkmjbaa
open Go

theorem xor_half (b c : Nat) : (b ^^^ c) / 2 = (b / 2) ^^^ (c / 2) := Nat.xor_div_two
theorem mulS_from : ∀ (n a b s : Nat), mulS n a b s = s ^^^ mulS n a b 0
  | 0, _, _, _ => by simp [mulS]
  | n + 1, a, b, s => by
    unfold mulS
    rw [mulS_from n (tw a) (b / 2) (if b % 2 = 1 then s ^^^ a else s), mulS_from n (tw a) (b / 2) (if b % 2 = 1 then 0 ^^^ a else 0)]
    split
    · rw [Nat.zero_xor, Nat.xor_assoc]
    · rw [Nat.zero_xor]
theorem mulS_right : ∀ (n a b c : Nat), mulS n a (b ^^^ c) 0 = mulS n a b 0 ^^^ mulS n a c 0
  | 0, _, _, _ => by simp [mulS]
  | n + 1, a, b, c => by
    unfold mulS
    rw [mulS_from n (tw a) _ (if (b ^^^ c) % 2 = 1 then 0 ^^^ a else 0), mulS_from n (tw a) _ (if b % 2 = 1 then 0 ^^^ a else 0), mulS_from n (tw a) _ (if c % 2 = 1 then 0 ^^^ a else 0), xor_half, mulS_right n, xor4]
    congr 1
    by_cases hb : b % 2 = 1 <;> by_cases hc : c % 2 = 1 <;> simp [hb, hc]
theorem mulS_left : ∀ (n a c b : Nat), a < 256 → c < 256 → mulS n (a ^^^ c) b 0 = mulS n a b 0 ^^^ mulS n c b 0
  | 0, _, _, _, _, _ => by simp [mulS]
  | n + 1, a, c, b, ha, hc => by
    unfold mulS
    rw [mulS_from n _ _ (if b % 2 = 1 then 0 ^^^ (a ^^^ c) else 0), mulS_from n _ _ (if b % 2 = 1 then 0 ^^^ a else 0), mulS_from n _ _ (if b % 2 = 1 then 0 ^^^ c else 0), tw_xor ha hc, mulS_left n _ _ _ (tw_lt ha) (tw_lt hc), xor4]
    congr 1
    split <;> simp
theorem mul_right (a b c : Nat) : mul a (b ^^^ c) = mul a b ^^^ mul a c := mulS_right 8 a b c
theorem mul_left {a c : Nat} (b : Nat) (ha : a < 256) (hc : c < 256) : mul (a ^^^ c) b = mul a b ^^^ mul c b := mulS_left 8 a c b ha hc

theorem pow_lt {i : Nat} (h : i < 8) : 2 ^ i < 256 := by
  have t : ∀ i : Fin 8, 2 ^ i.val < 256 := by decide
  exact t ⟨i, h⟩
/-- What keeps sums is known from the powers of x. -/
theorem pow_xor (n y : Nat) (hn : n < 8) (hy : y < 2 ^ n) : 2 ^ n ^^^ y = 2 ^ n + y := by
  have h : ∀ m : Fin 8, ∀ z : Fin 256, z.val < 2 ^ m.val → 2 ^ m.val ^^^ z.val = 2 ^ m.val + z.val := by decide +kernel
  have h2 : 2 ^ n ≤ 2 ^ 8 := Nat.pow_le_pow_right (by omega) (by omega)
  exact h ⟨n, hn⟩ ⟨y, by omega⟩ hy
theorem lin_ext (f g : Nat → Nat) (hf : ∀ x y, x < 256 → y < 256 → f (x ^^^ y) = f x ^^^ f y) (hg : ∀ x y, x < 256 → y < 256 → g (x ^^^ y) = g x ^^^ g y)
    (h : ∀ i, i < 8 → f (2 ^ i) = g (2 ^ i)) : ∀ x, x < 256 → f x = g x := by
  have h0 : ∀ k : Nat → Nat, (∀ x y, x < 256 → y < 256 → k (x ^^^ y) = k x ^^^ k y) → k 0 = 0 := fun k hk => by
    have := hk 0 0 (by omega) (by omega); simpa using this
  have main : ∀ n, n ≤ 8 → ∀ x, x < 2 ^ n → f x = g x := by
    intro n
    induction n with
    | zero => intro _ x hx; obtain rfl : x = 0 := by omega
              rw [h0 f hf, h0 g hg]
    | succ n ih =>
      intro hn x hx
      by_cases hl : x < 2 ^ n
      · exact ih (by omega) x hl
      · have e := pow_xor n (x - 2 ^ n) (by omega) (by have := Nat.pow_succ 2 n; omega)
        have b8 : 2 ^ n < 256 := pow_lt (by omega)
        have b9 : x - 2 ^ n < 2 ^ n := by have := Nat.pow_succ 2 n; omega
        have e2 : x = 2 ^ n ^^^ (x - 2 ^ n) := by omega
        rw [e2, hf _ _ b8 (by omega), hg _ _ b8 (by omega), h n (by omega), ih (by omega) _ b9]
  exact fun x hx => main 8 (Nat.le_refl _) x hx

theorem mul_comm' {a b : Nat} (ha : a < 256) (hb : b < 256) : mul a b = mul b a := by
  have base : ∀ i j : Fin 8, mul (2 ^ i.val) (2 ^ j.val) = mul (2 ^ j.val) (2 ^ i.val) := by decide +kernel
  refine lin_ext (fun x => mul x b) (fun x => mul b x) (fun x y hx hy => mul_left b hx hy) (fun x y _ _ => mul_right b x y) (fun i hi => ?_) a ha
  exact lin_ext (fun y => mul (2 ^ i) y) (fun y => mul y (2 ^ i)) (fun x y _ _ => mul_right _ x y) (fun x y hx hy => mul_left _ hx hy) (fun j hj => base ⟨i, hi⟩ ⟨j, hj⟩) b hb
theorem mul_assoc' {a b c : Nat} (ha : a < 256) (hb : b < 256) (hc : c < 256) : mul (mul a b) c = mul a (mul b c) := by
  have base : ∀ i j k : Fin 8, mul (mul (2 ^ i.val) (2 ^ j.val)) (2 ^ k.val) = mul (2 ^ i.val) (mul (2 ^ j.val) (2 ^ k.val)) := by decide +kernel
  refine lin_ext (fun x => mul (mul x b) c) (fun x => mul x (mul b c)) (fun x y hx hy => ?_) (fun x y hx hy => mul_left _ hx hy) (fun i hi => ?_) a ha
  · simp only [mul_left b hx hy]; exact mul_left c (mul_lt hx) (mul_lt hy)
  have pi := pow_lt hi
  refine lin_ext (fun y => mul (mul (2 ^ i) y) c) (fun y => mul (2 ^ i) (mul y c)) (fun x y hx hy => ?_) (fun x y hx hy => ?_) (fun j hj => ?_) b hb
  · simp only [mul_right]; exact mul_left c (mul_lt pi) (mul_lt pi)
  · simp only [mul_left c hx hy]; exact mul_right _ _ _
  have pj := pow_lt hj
  refine lin_ext (fun z => mul (mul (2 ^ i) (2 ^ j)) z) (fun z => mul (2 ^ i) (mul (2 ^ j) z)) (fun x y _ _ => mul_right _ _ _) (fun x y _ _ => ?_) (fun k hk => ?_) c hc
  · simp only [mul_right]
  · exact base ⟨i, hi⟩ ⟨j, hj⟩ ⟨k, hk⟩
theorem mul_one' {a : Nat} : mul a 1 = a := by
  show mulS 8 a 1 0 = a
  rw [show (8 : Nat) = 7 + 1 from rfl]; unfold mulS; simp [mulS_zero]
theorem mul_inv {b : Nat} (h0 : b ≠ 0) (h : b < 256) : mul b (inv b) = 1 := by
  have t : ∀ n : Fin 256, n.val ≠ 0 → mul n.val (inv n.val) = 1 := by decide +kernel
  exact t ⟨b, h⟩ h0

theorem mulI_comm {a b : Int} (ha : a ≤ 255) (hb : b ≤ 255) : mulI a b = mulI b a := by
  unfold mulI; rw [mul_comm' (by omega) (by omega)]
theorem mulI_assoc {a b c : Int} (ha : a ≤ 255) (hb : b ≤ 255) (hc : c ≤ 255) : mulI (mulI a b) c = mulI a (mulI b c) := by
  unfold mulI; rw [Int.toNat_natCast, Int.toNat_natCast, mul_assoc' (by omega) (by omega) (by omega)]
theorem mulI_xor (a b c : Int) : mulI a (xorI b c) = xorI (mulI a b) (mulI a c) := by
  unfold mulI xorI; rw [Int.toNat_natCast, Int.toNat_natCast, Int.toNat_natCast, mul_right]
theorem mulI_one {a : Int} (h : 0 ≤ a) : mulI a 1 = a := by
  unfold mulI; rw [show Int.toNat 1 = 1 from rfl, mul_one']; omega
end Go.Proofs.Ytfjbehobpkmjbaa

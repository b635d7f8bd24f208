/- Plain mathematics of mixed columns: mixing and unmixing undo one another, and both keep sums. Condition: the columns' bytes are bytes. -/
import Derived.Test.YtilfjmpoiiepkaaMixC
import Derived.Test.YtilfjmpoiiepkaaNumB
namespace Go.Proofs.Ytilfjmpoiiepkaa
open Go

theorem mul_nought (x : Nat) : mul x 0 = 0 := mulS_zero 8 x 0
theorem mul_one_eq (x : Nat) : mul x 1 = x := mul_one'
theorem mxK_at (f g : Nat → Nat) (k : Nat) : mxK f g k = ((mul (f 0) (g ((0 + 4 - k) % 4)) ^^^ mul (f 1) (g ((1 + 4 - k) % 4))) ^^^ mul (f 2) (g ((2 + 4 - k) % 4))) ^^^ mul (f 3) (g ((3 + 4 - k) % 4)) := by
  unfold mxK mxS mxS mxS mxS mxS
  rw [Nat.zero_xor]
/-- Mixed twice: the factor of byte m in byte k. -/
def fac2 (g h : Nat → Nat) (k m : Nat) : Nat :=
  ((mul (g ((m + 4 - 0) % 4)) (h ((0 + 4 - k) % 4)) ^^^ mul (g ((m + 4 - 1) % 4)) (h ((1 + 4 - k) % 4))) ^^^ mul (g ((m + 4 - 2) % 4)) (h ((2 + 4 - k) % 4))) ^^^ mul (g ((m + 4 - 3) % 4)) (h ((3 + 4 - k) % 4))
theorem mul_sum4 {a b c d : Nat} (u : Nat) (ha : a < 256) (hb : b < 256) (hc : c < 256) (hd : d < 256) :
    mul (((a ^^^ b) ^^^ c) ^^^ d) u = ((mul a u ^^^ mul b u) ^^^ mul c u) ^^^ mul d u := by
  rw [mul_left u (xor_lt (xor_lt ha hb) hc) hd, mul_left u (xor_lt ha hb) hc, mul_left u ha hb]
theorem mx_twice {f g h : Nat → Nat} (hf : IsWord f) (hg : IsWord g) (hh : IsWord h) (k : Nat) :
    mxK (mxK f g) h k = ((mul (f 0) (fac2 g h k 0) ^^^ mul (f 1) (fac2 g h k 1)) ^^^ mul (f 2) (fac2 g h k 2)) ^^^ mul (f 3) (fac2 g h k 3) := by
  rw [mxK_at (mxK f g) h k]
  simp only [mxK_at f g]
  have g' : ∀ i, g (i % 4) < 256 := fun i => hg _ (by omega)
  have h' : ∀ i, h (i % 4) < 256 := fun i => hh _ (by omega)
  have b0 := hf 0 (by omega)
  have b1 := hf 1 (by omega)
  have b2 := hf 2 (by omega)
  have b3 := hf 3 (by omega)
  have one : ∀ n u, u < 256 → mul (((mul (f 0) (g ((0 + 4 - n) % 4)) ^^^ mul (f 1) (g ((1 + 4 - n) % 4))) ^^^ mul (f 2) (g ((2 + 4 - n) % 4))) ^^^ mul (f 3) (g ((3 + 4 - n) % 4))) u
      = ((mul (f 0) (mul (g ((0 + 4 - n) % 4)) u) ^^^ mul (f 1) (mul (g ((1 + 4 - n) % 4)) u)) ^^^ mul (f 2) (mul (g ((2 + 4 - n) % 4)) u)) ^^^ mul (f 3) (mul (g ((3 + 4 - n) % 4)) u) := fun n u hu => by
    rw [mul_sum4 u (mul_lt b0) (mul_lt b1) (mul_lt b2) (mul_lt b3), mul_assoc' b0 (g' _) hu, mul_assoc' b1 (g' _) hu, mul_assoc' b2 (g' _) hu, mul_assoc' b3 (g' _) hu]
  rw [one 0 _ (h' _), one 1 _ (h' _), one 2 _ (h' _), one 3 _ (h' _)]
  unfold fac2
  simp only [mul_right]
  ac_rfl
theorem fac_mu : ∀ k m : Fin 4, fac2 facM facU k.val m.val = if m.val = k.val then 1 else 0 := by decide +kernel
theorem fac_um : ∀ k m : Fin 4, fac2 facU facM k.val m.val = if m.val = k.val then 1 else 0 := by decide +kernel
theorem pick4 (f : Nat → Nat) {k : Nat} (hk : k < 4) : ((mul (f 0) (if 0 = k then 1 else 0) ^^^ mul (f 1) (if 1 = k then 1 else 0)) ^^^ mul (f 2) (if 2 = k then 1 else 0)) ^^^ mul (f 3) (if 3 = k then 1 else 0) = f k := by
  rcases (show k = 0 ∨ k = 1 ∨ k = 2 ∨ k = 3 by omega) with rfl | rfl | rfl | rfl <;> simp [mul_nought, mul_one_eq]
theorem unm_mix {f : Nat → Nat} (hf : IsWord f) {k : Nat} (hk : k < 4) : unmK (mixK f) k = f k := by
  unfold unmK mixK
  rw [mx_twice hf facM_word facU_word k]
  have e : ∀ m, m < 4 → fac2 facM facU k m = if m = k then 1 else 0 := fun m hm => fac_mu ⟨k, hk⟩ ⟨m, hm⟩
  rw [e 0 (by omega), e 1 (by omega), e 2 (by omega), e 3 (by omega)]; exact pick4 f hk
theorem mix_unm {f : Nat → Nat} (hf : IsWord f) {k : Nat} (hk : k < 4) : mixK (unmK f) k = f k := by
  unfold unmK mixK
  rw [mx_twice hf facU_word facM_word k]
  have e : ∀ m, m < 4 → fac2 facU facM k m = if m = k then 1 else 0 := fun m hm => fac_um ⟨k, hk⟩ ⟨m, hm⟩
  rw [e 0 (by omega), e 1 (by omega), e 2 (by omega), e 3 (by omega)]; exact pick4 f hk
theorem mx_sum {f f' : Nat → Nat} (g : Nat → Nat) (hf : IsWord f) (hf' : IsWord f') (k : Nat) : mxK (fun i => f i ^^^ f' i) g k = mxK f g k ^^^ mxK f' g k := by
  simp only [mxK_at]
  rw [mul_left _ (hf 0 (by omega)) (hf' 0 (by omega)), mul_left _ (hf 1 (by omega)) (hf' 1 (by omega)), mul_left _ (hf 2 (by omega)) (hf' 2 (by omega)), mul_left _ (hf 3 (by omega)) (hf' 3 (by omega))]
  ac_rfl
end Go.Proofs.Ytilfjmpoiiepkaa

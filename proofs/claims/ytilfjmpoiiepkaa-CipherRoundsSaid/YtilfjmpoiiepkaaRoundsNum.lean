/- Plain mathematics of the round keys: the words, one behind the other. Condition: the key's bytes are bytes. -/
import Derived.Test.YtilfjmpoiiepkaaEncNum
import Derived.Test.YtilfjmpoiiepkaaRefConst
import Derived.Test.YtilfjmpoiiepkaaRotC
import Derived.Test.YtilfjmpoiiepkaaPart
namespace Go.Proofs.Ytilfjmpoiiepkaa
open Go

/-- What the word ahead adds to word k. -/
def tnK (N k : Nat) (t : Nat → Nat) : Nat → Nat := if k % N = 0 then xorK (subK (turnK t)) (oneK (conN (k / N : Nat))) else if N = 8 ∧ k % 8 = 4 then subK t else t
def newW (N : Nat) (g : Nat → Nat) (W : Nat → Nat → Nat) (k : Nat) : Nat → Nat := if k < N then fun j => g (4 * k + j) else xorK (W (k - N)) (tnK N k (W (k - 1)))
/-- The first k words. -/
def wdTo (N : Nat) (g : Nat → Nat) : Nat → Nat → Nat → Nat
  | 0 => fun _ _ => 0
  | k + 1 => fun i => if i = k then newW N g (wdTo N g k) k else wdTo N g k i
/-- Words in a row. -/
def flat (W : Nat → Nat → Nat) : Nat → Nat := fun p => W (p / 4) (p % 4)
theorem turnK_word {t : Nat → Nat} (h : IsWord t) : IsWord (turnK t) := fun i _ => h _ (by omega)
theorem subK_word {t : Nat → Nat} (h : IsWord t) : IsWord (subK t) := fun i hi => subN_lt (h i hi)
theorem conN_lt (i : Int) : conN i < 256 := by have := conI_bd i; have := conN_is i; omega
theorem oneK_word {n : Nat} (h : n < 256) : IsWord (oneK n) := fun j _ => by unfold oneK; split <;> omega
theorem xorW_word {f g : Nat → Nat} (hf : IsWord f) (hg : IsWord g) : IsWord (xorK f g) := fun j hj => xor_lt (hf j hj) (hg j hj)
theorem tnK_word {t : Nat → Nat} (N k : Nat) (h : IsWord t) : IsWord (tnK N k t) := by
  unfold tnK; split
  · exact xorW_word (subK_word (turnK_word h)) (oneK_word (conN_lt _))
  · split
    · exact subK_word h
    · exact h
theorem newW_word {N : Nat} {g : Nat → Nat} {W : Nat → Nat → Nat} {k : Nat} (hg : ∀ i, i < 4 * N → g i < 256) (hW : ∀ i, IsWord (W i)) : IsWord (newW N g W k) := by
  unfold newW; split
  · intro j hj; exact hg _ (by omega)
  · exact xorW_word (hW _) (tnK_word _ _ (hW _))
theorem wdTo_word {N : Nat} {g : Nat → Nat} (hg : ∀ i, i < 4 * N → g i < 256) : ∀ k i, IsWord (wdTo N g k i)
  | 0, _ => fun _ _ => by unfold wdTo; omega
  | k + 1, i => by
    show IsWord (if i = k then newW N g (wdTo N g k) k else wdTo N g k i)
    split
    · exact newW_word hg (wdTo_word hg k)
    · exact wdTo_word hg k i
theorem wdTo_next (N : Nat) (g : Nat → Nat) (k i : Nat) : wdTo N g (k + 1) i = if i = k then newW N g (wdTo N g k) k else wdTo N g k i := rfl
/-- A word, once it is made, stays. -/
theorem wdTo_stays (N : Nat) (g : Nat → Nat) {i : Nat} : ∀ {k m : Nat}, i < k → k ≤ m → wdTo N g m i = wdTo N g k i
  | k, m, h1, h2 => by
    induction m with
    | zero => omega
    | succ m ih =>
      rcases (show k = m + 1 ∨ k ≤ m by omega) with rfl | h
      · rfl
      · rw [wdTo_next, if_neg (by omega)]; exact ih h
theorem flat_start (M N : Nat) (g : Nat → Nat) : mk M (flat (wdTo N g 0)) = mk M zeroK := rfl
theorem flat_step (M N : Nat) (g : Nat → Nat) (k : Nat) : mk M (put (flat (wdTo N g k)) (4 * k) 4 (newW N g (wdTo N g k) k)) = mk M (flat (wdTo N g (k + 1))) := mk_ext fun p _ => by
  unfold put flat
  rw [wdTo_next]
  by_cases h : 4 * k ≤ p ∧ p < 4 * k + 4
  · rw [if_pos h, if_pos (show p / 4 = k by omega), show p % 4 = p - 4 * k by omega]
  · rw [if_neg h, if_neg (by omega)]
theorem flat_word (W : Nat → Nat → Nat) (i : Nat) : ∀ j, j < 4 → flat W (4 * i + j) = W i j := fun j hj => by
  unfold flat; rw [show (4 * i + j) / 4 = i by omega, show (4 * i + j) % 4 = j by omega]
theorem newW_key {N : Nat} (g : Nat → Nat) (W : Nat → Nat → Nat) {k : Nat} (h : k < N) : newW N g W k = fun j => g (4 * k + j) := by unfold newW; rw [if_pos h]
theorem newW_more {N : Nat} (g : Nat → Nat) (W : Nat → Nat → Nat) {k : Nat} (h : ¬ k < N) : newW N g W k = xorK (W (k - N)) (tnK N k (W (k - 1))) := by unfold newW; rw [if_neg h]
theorem tnK_turn {N k : Nat} (t : Nat → Nat) (h : k % N = 0) : tnK N k t = xorK (subK (turnK t)) (oneK (conN (k / N : Nat))) := by unfold tnK; rw [if_pos h]
theorem tnK_sub {N k : Nat} (t : Nat → Nat) (h : ¬ k % N = 0) (h8 : N = 8 ∧ k % 8 = 4) : tnK N k t = subK t := by unfold tnK; rw [if_neg h, if_pos h8]
theorem tnK_same {N k : Nat} (t : Nat → Nat) (h : ¬ k % N = 0) (h8 : ¬ (N = 8 ∧ k % 8 = 4)) : tnK N k t = t := by unfold tnK; rw [if_neg h, if_neg h8]
/-- The round keys of a key of N words. -/
def rkS (N : Nat) (g : Nat → Nat) : Nat → Nat → Nat := fun i j => flat (wdTo N g (4 * N + 28)) (i * 16 + j)
theorem rkS_key {N : Nat} {g : Nat → Nat} (hg : ∀ i, i < 4 * N → g i < 256) (i : Nat) : IsKey (rkS N g i) := fun j _ => wdTo_word hg _ _ _ (by omega)
end Go.Proofs.Ytilfjmpoiiepkaa

/- Plain mathematics of the substitution of bytes: rotations, the substitution and its way back, as the code reckons them and as the document's answer does, bit by bit. Condition: the bytes are bytes. -/
import Derived.Test.YtilfjmpoiiepkaaNumB
import Derived.Test.YtilfjmpoiiepkaaRefNum
import Derived.Test.YtilfjmpoiiepkaaKey
namespace Go.Proofs.Ytilfjmpoiiepkaa
open Go

/-- A byte rotated by so many bits to the left. -/
def rot (n k : Nat) : Nat := n * 2 ^ k % 256 + n / 2 ^ (8 - k)
def spr (n : Nat) : Nat := n ^^^ rot n 1 ^^^ rot n 2 ^^^ rot n 3 ^^^ rot n 4
def gat (n : Nat) : Nat := rot n 1 ^^^ rot n 3 ^^^ rot n 6
def subN (n : Nat) : Nat := spr (inv n) ^^^ 99
def backN (n : Nat) : Nat := inv (gat (n ^^^ 99))

theorem rot_lt {n k : Nat} (h : n < 256) (hk : k < 8) : rot n k < 256 := by
  have t : ∀ n : Fin 256, ∀ k : Fin 8, rot n.val k.val < 256 := by decide +kernel
  exact t ⟨n, h⟩ ⟨k, hk⟩
theorem rot_or {n k : Nat} (h : n < 256) (hk : k < 8) : (n * 2 ^ k % 256) ||| (n / 2 ^ (8 - k)) = rot n k := by
  have t : ∀ n : Fin 256, ∀ k : Fin 8, (n.val * 2 ^ k.val % 256) ||| (n.val / 2 ^ (8 - k.val)) = rot n.val k.val := by decide +kernel
  exact t ⟨n, h⟩ ⟨k, hk⟩
theorem spr_lt {n : Nat} (h : n < 256) : spr n < 256 := xor_lt (xor_lt (xor_lt (xor_lt h (rot_lt h (by omega))) (rot_lt h (by omega))) (rot_lt h (by omega))) (rot_lt h (by omega))
theorem gat_lt {n : Nat} (h : n < 256) : gat n < 256 := xor_lt (xor_lt (rot_lt h (by omega)) (rot_lt h (by omega))) (rot_lt h (by omega))
theorem subN_lt {n : Nat} (h : n < 256) : subN n < 256 := xor_lt (spr_lt (inv_lt h)) (by omega)
theorem backN_lt {n : Nat} (h : n < 256) : backN n < 256 := inv_lt (gat_lt (xor_lt h (by omega)))

theorem sub_all : ∀ n : Fin 256, backN (subN n.val) = n.val ∧ subN (backN n.val) = n.val ∧ subN n.val ≠ n.val ∧ subN n.val ≠ 255 - n.val := by decide +kernel
theorem back_sub {n : Nat} (h : n < 256) : backN (subN n) = n := (sub_all ⟨n, h⟩).1
theorem sub_back {n : Nat} (h : n < 256) : subN (backN n) = n := (sub_all ⟨n, h⟩).2.1

/-! ### The document's answer, bit by bit -/
def refBit (v i : Nat) : Nat := bt v i + bt v ((i + 4) % 8) + bt v ((i + 5) % 8) + bt v ((i + 6) % 8) + bt v ((i + 7) % 8) + bt 99 i
theorem refBit_step {v m : Nat} (h : v < 256) (hm : m < 8) : 2 * ((spr v ^^^ 99) / 2 ^ (m + 1)) + refBit v m % 2 = (spr v ^^^ 99) / 2 ^ m := by
  have t : ∀ v : Fin 256, ∀ m : Fin 8, 2 * ((spr v.val ^^^ 99) / 2 ^ (m.val + 1)) + refBit v.val m.val % 2 = (spr v.val ^^^ 99) / 2 ^ m.val := by decide +kernel
  exact t ⟨v, h⟩ ⟨m, hm⟩

/-! ### The same on Go's integers -/
def rotI (b : Int) (k : Nat) : Int := (rot b.toNat k : Nat)
def sprI (b : Int) : Int := (spr b.toNat : Nat)
def gatI (b : Int) : Int := (gat b.toNat : Nat)
def subI (b : Int) : Int := (subN b.toNat : Nat)
def backI (b : Int) : Int := (backN b.toNat : Nat)
theorem rotI_bd {b : Int} {k : Nat} (h1 : b ≤ 255) (hk : k < 8) : 0 ≤ rotI b k ∧ rotI b k ≤ 255 := by
  have := rot_lt (n := b.toNat) (k := k) (by omega) hk; unfold rotI; omega
theorem sprI_bd {b : Int} (h1 : b ≤ 255) : 0 ≤ sprI b ∧ sprI b ≤ 255 := by
  have := spr_lt (n := b.toNat) (by omega); unfold sprI; omega
theorem gatI_bd {b : Int} (h1 : b ≤ 255) : 0 ≤ gatI b ∧ gatI b ≤ 255 := by
  have := gat_lt (n := b.toNat) (by omega); unfold gatI; omega
theorem subI_bd {b : Int} (h1 : b ≤ 255) : 0 ≤ subI b ∧ subI b ≤ 255 := by
  have := subN_lt (n := b.toNat) (by omega); unfold subI; omega
theorem backI_bd {b : Int} (h1 : b ≤ 255) : 0 ≤ backI b ∧ backI b ≤ 255 := by
  have := backN_lt (n := b.toNat) (by omega); unfold backI; omega
theorem subI_nat (n : Nat) : subI n = (subN n : Nat) := rfl
theorem backI_nat (n : Nat) : backI n = (backN n : Nat) := rfl
theorem rotI_or {b : Int} {k : Nat} (h0 : 0 ≤ b) (h1 : b ≤ 255) (hk : k < 8) {x y : Int} (hx : x = b * (2 ^ k : Nat) % 256) (hy : y = b / (2 ^ (8 - k) : Nat)) : bits .or .u8 x y = rotI b k := by
  have e := rot_or (n := b.toNat) (k := k) (by omega) hk
  have p : 0 < 2 ^ (8 - k) := Nat.pow_pos (by omega)
  have d : b.toNat / 2 ^ (8 - k) < 256 := Nat.lt_of_le_of_lt (Nat.div_le_self _ _) (by omega)
  have := bits_or_u8 (x := b.toNat * 2 ^ k % 256) (y := b.toNat / 2 ^ (8 - k)) (by omega) d
  unfold rotI; rw [← e, ← this]
  subst hx hy
  congr 1
  · rw [Int.natCast_emod, Int.natCast_mul, Int.toNat_of_nonneg h0]; rfl
  · rw [Int.natCast_ediv, Int.toNat_of_nonneg h0]
theorem backI_subI {b : Int} (h0 : 0 ≤ b) (h1 : b ≤ 255) : backI (subI b) = b := by
  unfold backI subI; rw [Int.toNat_natCast, back_sub (by omega)]; omega
theorem subI_backI {b : Int} (h0 : 0 ≤ b) (h1 : b ≤ 255) : subI (backI b) = b := by
  unfold backI subI; rw [Int.toNat_natCast, sub_back (by omega)]; omega
theorem subI_ne {b : Int} (h0 : 0 ≤ b) (h1 : b ≤ 255) : subI b ≠ b ∧ subI b ≠ 255 - b := by
  have t := sub_all ⟨b.toNat, by omega⟩
  simp only at t
  unfold subI; omega
/-- The steps in which the code reckons the substitution. -/
theorem sprI_step (b : Int) : sprI b = xorI (xorI (xorI (xorI b (rotI b 1)) (rotI b 2)) (rotI b 3)) (rotI b 4) := by
  unfold sprI xorI rotI spr; simp only [Int.toNat_natCast]
theorem gatI_step (b : Int) : gatI b = xorI (xorI (rotI b 1) (rotI b 3)) (rotI b 6) := by
  unfold gatI xorI rotI gat; simp only [Int.toNat_natCast]
theorem subI_step (b : Int) : subI b = xorI (sprI (invI b)) 99 := by
  unfold subI xorI sprI invI subN; simp only [Int.toNat_natCast]; rfl
theorem backI_step (b : Int) : backI b = invI (gatI (xorI b 99)) := by
  unfold backI xorI gatI invI backN; simp only [Int.toNat_natCast]; rfl
end Go.Proofs.Ytilfjmpoiiepkaa

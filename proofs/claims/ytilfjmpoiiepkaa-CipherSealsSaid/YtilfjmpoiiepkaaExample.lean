/- The chapter's example, reckoned: the round keys of its key, and its block encrypted. No condition. -/
import Derived.Test.YtilfjmpoiiepkaaRoundsNum
namespace Go.Proofs.Ytilfjmpoiiepkaa
open Go

def keyA : Nat → Nat := fun j => j
def keyB : Nat → Nat := fun j => 17 * j
/-- The words of the example's key, byte by byte; and the states behind each round. -/
def exL : List Nat := [0, 1, 2, 3, 4, 5, 6, 7, 8, 9, 10, 11, 12, 13, 14, 15, 214, 170, 116, 253, 210, 175, 114, 250, 218, 166, 120, 241, 214, 171, 118, 254, 182, 146, 207, 11, 100, 61, 189, 241, 190, 155, 197, 0, 104, 48, 179, 254, 182, 255, 116, 78, 210, 194, 201, 191, 108, 89, 12, 191, 4, 105, 191, 65, 71, 247, 247, 188, 149, 53, 62, 3, 249, 108, 50, 188, 253, 5, 141, 253, 60, 170, 163, 232, 169, 159, 157, 235, 80, 243, 175, 87, 173, 246, 34, 170, 94, 57, 15, 125, 247, 166, 146, 150, 167, 85, 61, 193, 10, 163, 31, 107, 20, 249, 112, 26, 227, 95, 226, 140, 68, 10, 223, 77, 78, 169, 192, 38, 71, 67, 135, 53, 164, 28, 101, 185, 224, 22, 186, 244, 174, 191, 122, 210, 84, 153, 50, 209, 240, 133, 87, 104, 16, 147, 237, 156, 190, 44, 151, 78, 19, 17, 29, 127, 227, 148, 74, 23, 243, 7, 167, 139, 77, 43, 48, 197]
def stL : List Nat := [0, 17, 34, 51, 68, 85, 102, 119, 136, 153, 170, 187, 204, 221, 238, 255, 0, 16, 32, 48, 64, 80, 96, 112, 128, 144, 160, 176, 192, 208, 224, 240, 137, 216, 16, 232, 133, 90, 206, 104, 45, 24, 67, 216, 203, 18, 143, 228, 73, 21, 89, 143, 85, 229, 215, 160, 218, 202, 148, 250, 31, 10, 99, 247, 250, 99, 106, 40, 37, 179, 57, 201, 64, 102, 138, 49, 87, 36, 77, 23, 36, 114, 64, 35, 105, 102, 179, 250, 110, 210, 117, 50, 136, 66, 91, 108, 200, 22, 119, 188, 155, 122, 201, 59, 37, 2, 121, 146, 176, 38, 25, 150, 198, 47, 225, 9, 247, 94, 237, 195, 204, 121, 57, 93, 132, 249, 207, 93, 209, 135, 108, 15, 121, 196, 48, 10, 180, 85, 148, 173, 214, 111, 244, 31, 253, 227, 186, 210, 5, 229, 208, 215, 53, 71, 150, 78, 241, 254, 55, 241, 189, 110, 124, 61, 242, 181, 119, 158, 11, 97, 33, 110, 139, 16, 182, 137, 105, 196, 224, 216, 106, 123, 4, 48, 216, 205, 183, 128, 112, 180, 197, 90]
def exW : Nat → Nat → Nat := fun i j => exL.getD (4 * i + j) 0
def stK4 : Nat → Nat → Nat := fun i j => stL.getD (16 * i + j) 0
def keyC : Nat → Nat := stK4 11
theorem tnK_eq {t u : Nat → Nat} (N k : Nat) (h : ∀ j, j < 4 → t j = u j) : ∀ j, j < 4 → tnK N k t j = tnK N k u j := fun j hj => by
  unfold tnK
  split
  · show subN (t ((j + 1) % 4)) ^^^ _ = subN (u ((j + 1) % 4)) ^^^ _
    rw [h _ (by omega)]
  · split
    · show subN (t j) = subN (u j)
      rw [h j hj]
    · exact h j hj
theorem newW_eq {W V : Nat → Nat → Nat} (N : Nat) (g : Nat → Nat) {k : Nat} (h : ∀ i, i < k → ∀ j, j < 4 → W i j = V i j) (hN : 0 < N) : ∀ j, j < 4 → newW N g W k j = newW N g V k j := fun j hj => by
  unfold newW
  split
  · rfl
  · show W (k - N) j ^^^ tnK N k (W (k - 1)) j = V (k - N) j ^^^ tnK N k (V (k - 1)) j
    rw [h (k - N) (by omega) j hj, tnK_eq N k (h (k - 1) (by omega)) j hj]
theorem wd_rec {N M : Nat} (g : Nat → Nat) {i : Nat} (hi : i < M) (hN : 0 < N) : wdTo N g M i = newW N g (wdTo N g M) i := by
  rw [wdTo_stays N g (k := i + 1) (by omega) (by omega), wdTo_next, if_pos rfl]
  unfold newW
  split
  · rfl
  · rw [wdTo_stays N g (i := i - N) (k := i) (m := M) (by omega) (by omega), wdTo_stays N g (i := i - 1) (k := i) (m := M) (by omega) (by omega)]
theorem ex_all : ∀ i : Fin 44, ∀ j : Fin 4, newW 4 keyA exW i.val j.val = exW i.val j.val := by decide +kernel
theorem wd_ex : ∀ k i, i < k → i < 44 → ∀ j, j < 4 → wdTo 4 keyA 44 i j = exW i j
  | 0, _, h, _ => fun _ _ => absurd h (Nat.not_lt_zero _)
  | k + 1, i, h, hi => fun j hj => by
    rw [wd_rec keyA hi (by omega), newW_eq 4 keyA (fun i' hi' j' hj' => wd_ex k i' (by omega) (by omega) j' hj') (by omega) j hj]
    exact ex_all ⟨i, hi⟩ ⟨j, hj⟩
theorem rk_ex {i j : Nat} (hi : i < 11) (hj : j < 16) : rkS 4 keyA i j = exW (4 * i + j / 4) (j % 4) := by
  show wdTo 4 keyA 44 ((i * 16 + j) / 4) ((i * 16 + j) % 4) = _
  rw [show (i * 16 + j) / 4 = 4 * i + j / 4 by omega, show (i * 16 + j) % 4 = j % 4 by omega]
  exact wd_ex 44 _ (by omega) (by omega) _ (by omega)
theorem st_all : ∀ i : Fin 11, ∀ j : Fin 16, inE 11 i.val (stK4 i.val) j.val ^^^ exW (4 * i.val + j.val / 4) (j.val % 4) = stK4 (i.val + 1) j.val := by decide +kernel
theorem enc_ex : ∀ i, i ≤ 11 → EqK (encTo (rkS 4 keyA) 11 keyB i) (stK4 i)
  | 0, _ => fun j hj => by
    have t : ∀ a : Fin 16, keyB a.val = stK4 0 a.val := by decide +kernel
    exact t ⟨j, hj⟩
  | i + 1, h => fun j hj => by
    rw [encTo_step]
    show inE 11 i (encTo (rkS 4 keyA) 11 keyB i) j ^^^ rkS 4 keyA i j = _
    rw [eq_inE 11 i (enc_ex i (by omega)) j hj, rk_ex (by omega) hj]
    exact st_all ⟨i, by omega⟩ ⟨j, hj⟩
theorem example_is : mk 16 (encK (rkS 4 keyA) 11 keyB) = mk 16 keyC := by
  rw [encK_is]; exact (enc_ex 11 (Nat.le_refl _)).mk
end Go.Proofs.Ytilfjmpoiiepkaa

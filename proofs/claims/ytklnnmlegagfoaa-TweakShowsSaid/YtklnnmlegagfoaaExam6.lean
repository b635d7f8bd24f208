/- The chapter's example of layer 6, reckoned: the key of noughts, the tweak of number 0, and what two blocks of noughts are hidden to. No condition. -/
import Derived.Test.YtklnnmlegagfoaaTwCipher
namespace Go.Proofs.Ytklnnmlegagfoaa
open Go

/-- The words of the key of noughts, byte by byte; and the states behind each round. -/
def zxL : List Nat := [0, 0, 0, 0, 0, 0, 0, 0, 0, 0, 0, 0, 0, 0, 0, 0, 98, 99, 99, 99, 98, 99, 99, 99, 98, 99, 99, 99, 98, 99, 99, 99, 155, 152, 152, 201, 249, 251, 251, 170, 155, 152, 152, 201, 249, 251, 251, 170, 144, 151, 52, 80, 105, 108, 207, 250, 242, 244, 87, 51, 11, 15, 172, 153, 238, 6, 218, 123, 135, 106, 21, 129, 117, 158, 66, 178, 126, 145, 238, 43, 127, 46, 43, 136, 248, 68, 62, 9, 141, 218, 124, 187, 243, 75, 146, 144, 236, 97, 75, 133, 20, 37, 117, 140, 153, 255, 9, 55, 106, 180, 155, 167, 33, 117, 23, 135, 53, 80, 98, 11, 172, 175, 107, 60, 198, 27, 240, 155, 14, 249, 3, 51, 59, 169, 97, 56, 151, 6, 10, 4, 81, 29, 250, 159, 177, 212, 216, 226, 138, 125, 185, 218, 29, 123, 179, 222, 76, 102, 73, 65, 180, 239, 91, 203, 62, 146, 226, 17, 35, 233, 81, 207, 111, 143, 24, 142]
def zsL : List Nat := [0, 0, 0, 0, 0, 0, 0, 0, 0, 0, 0, 0, 0, 0, 0, 0, 0, 0, 0, 0, 0, 0, 0, 0, 0, 0, 0, 0, 0, 0, 0, 0, 1, 0, 0, 0, 1, 0, 0, 0, 1, 0, 0, 0, 1, 0, 0, 0, 198, 228, 228, 139, 164, 135, 135, 232, 198, 228, 228, 139, 164, 135, 135, 232, 40, 45, 243, 196, 106, 243, 134, 37, 74, 78, 144, 167, 8, 144, 229, 70, 171, 210, 205, 254, 55, 90, 181, 73, 80, 160, 175, 192, 117, 154, 106, 95, 212, 111, 79, 108, 85, 184, 150, 51, 126, 5, 187, 61, 121, 121, 222, 35, 4, 242, 202, 151, 7, 120, 40, 69, 226, 47, 1, 150, 73, 197, 215, 16, 183, 170, 228, 197, 29, 37, 45, 79, 108, 146, 15, 129, 148, 229, 129, 80, 35, 231, 140, 60, 19, 33, 99, 219, 170, 192, 198, 87, 46, 3, 203, 149, 127, 254, 14, 149, 81, 165, 102, 53, 14, 52, 124, 71, 41, 41, 236, 203, 102, 233, 75, 212, 239, 138, 44, 59, 136, 76, 250, 89, 202, 52, 43, 46]
def ztL : List Nat := [102, 233, 75, 212, 239, 138, 44, 59, 136, 76, 250, 89, 202, 52, 43, 46, 102, 233, 75, 212, 239, 138, 44, 59, 136, 76, 250, 89, 202, 52, 43, 46, 154, 234, 39, 7, 5, 174, 180, 81, 136, 187, 255, 64, 18, 115, 173, 29, 117, 109, 31, 187, 90, 62, 31, 249, 159, 199, 56, 100, 102, 162, 175, 242, 242, 245, 149, 80, 204, 36, 96, 83, 72, 153, 157, 150, 170, 92, 253, 182, 173, 79, 11, 15, 63, 73, 237, 64, 200, 203, 34, 229, 76, 17, 180, 201, 77, 190, 196, 37, 200, 245, 207, 232, 249, 89, 91, 35, 186, 87, 229, 147, 229, 194, 67, 199, 127, 15, 190, 195, 218, 111, 69, 237, 220, 164, 164, 200, 148, 26, 71, 36, 230, 212, 219, 16, 237, 106, 51, 202, 69, 107, 235, 43, 160, 228, 252, 39, 229, 53, 126, 54, 214, 156, 62, 171, 189, 136, 195, 222, 100, 211, 246, 199, 184, 189, 173, 217, 8, 208, 245, 161, 146, 162, 1, 145, 247, 149, 189, 74, 82, 226, 158, 215, 19, 211, 19, 250, 32, 233, 141, 188]
def zuL : List Nat := [204, 210, 151, 168, 223, 21, 89, 118, 16, 153, 244, 179, 148, 105, 86, 92, 204, 210, 151, 168, 223, 21, 89, 118, 16, 153, 244, 179, 148, 105, 86, 92, 234, 10, 202, 204, 31, 48, 55, 26, 77, 251, 19, 39, 68, 27, 206, 161, 205, 162, 183, 70, 179, 232, 228, 227, 122, 0, 193, 115, 48, 87, 231, 249, 166, 22, 82, 70, 216, 58, 28, 14, 8, 105, 172, 150, 171, 75, 202, 195, 130, 191, 53, 90, 123, 36, 139, 27, 112, 120, 39, 28, 127, 82, 67, 109, 243, 34, 201, 63, 193, 150, 78, 171, 22, 133, 240, 155, 245, 82, 141, 235, 56, 49, 245, 71, 110, 250, 191, 36, 168, 166, 73, 231, 40, 10, 140, 2, 20, 18, 210, 118, 184, 139, 234, 170, 74, 164, 67, 140, 96, 54, 180, 59, 94, 181, 205, 222, 141, 227, 13, 56, 54, 178, 71, 150, 73, 178, 90, 114, 210, 21, 10, 59, 202, 138, 147, 142, 244, 203, 233, 85, 25, 30, 185, 53, 1, 145, 69, 93, 74, 141, 180, 243, 156, 155, 54, 214, 187, 214, 196, 114]
def zxW : Nat → Nat → Nat := fun i j => zxL.getD (4 * i + j) 0
def zsK : Nat → Nat → Nat := fun i j => zsL.getD (16 * i + j) 0
def ztK : Nat → Nat → Nat := fun i j => ztL.getD (16 * i + j) 0
def zuK : Nat → Nat → Nat := fun i j => zuL.getD (16 * i + j) 0
theorem tnK_same4 {t u : Nat → Nat} (N k : Nat) (h : ∀ j, j < 4 → t j = u j) : ∀ j, j < 4 → tnK N k t j = tnK N k u j := fun j hj => by
  unfold tnK
  split
  · show subN (t ((j + 1) % 4)) ^^^ _ = subN (u ((j + 1) % 4)) ^^^ _
    rw [h _ (by omega)]
  · split
    · show subN (t j) = subN (u j)
      rw [h j hj]
    · exact h j hj
theorem newW_same {W V : Nat → Nat → Nat} (N : Nat) (g : Nat → Nat) {k : Nat} (h : ∀ i, i < k → ∀ j, j < 4 → W i j = V i j) (hN : 0 < N) : ∀ j, j < 4 → newW N g W k j = newW N g V k j := fun j hj => by
  unfold newW
  split
  · rfl
  · show W (k - N) j ^^^ tnK N k (W (k - 1)) j = V (k - N) j ^^^ tnK N k (V (k - 1)) j
    rw [h (k - N) (by omega) j hj, tnK_same4 N k (h (k - 1) (by omega)) j hj]
theorem wd_again {N M : Nat} (g : Nat → Nat) {i : Nat} (hi : i < M) (hN : 0 < N) : wdTo N g M i = newW N g (wdTo N g M) i := by
  rw [wdTo_stays N g (k := i + 1) (by omega) (by omega), wdTo_next, if_pos rfl]
  unfold newW
  split
  · rfl
  · rw [wdTo_stays N g (i := i - N) (k := i) (m := M) (by omega) (by omega), wdTo_stays N g (i := i - 1) (k := i) (m := M) (by omega) (by omega)]
theorem zx_all : ∀ i : Fin 44, ∀ j : Fin 4, newW 4 zeroK zxW i.val j.val = zxW i.val j.val := by decide +kernel
theorem wd_zx : ∀ k i, i < k → i < 44 → ∀ j, j < 4 → wdTo 4 zeroK 44 i j = zxW i j
  | 0, _, h, _ => fun _ _ => absurd h (Nat.not_lt_zero _)
  | k + 1, i, h, hi => fun j hj => by
    rw [wd_again zeroK hi (by omega), newW_same 4 zeroK (fun i' hi' j' hj' => wd_zx k i' (by omega) (by omega) j' hj') (by omega) j hj]
    exact zx_all ⟨i, hi⟩ ⟨j, hj⟩
theorem rk_zx {i j : Nat} (hi : i < 11) (hj : j < 16) : rkS 4 zeroK i j = zxW (4 * i + j / 4) (j % 4) := by
  show wdTo 4 zeroK 44 ((i * 16 + j) / 4) ((i * 16 + j) % 4) = _
  rw [show (i * 16 + j) / 4 = 4 * i + j / 4 by omega, show (i * 16 + j) % 4 = j % 4 by omega]
  exact wd_zx 44 _ (by omega) (by omega) _ (by omega)
/-- A table of states is the rounds' own. -/
theorem enc_tab (f : Nat → Nat) (st : Nat → Nat → Nat) (h0 : EqK f (st 0)) (hs : ∀ i : Fin 11, ∀ j : Fin 16, inE 11 i.val (st i.val) j.val ^^^ zxW (4 * i.val + j.val / 4) (j.val % 4) = st (i.val + 1) j.val) : ∀ i, i ≤ 11 → EqK (encTo (rkS 4 zeroK) 11 f i) (st i)
  | 0, _ => h0
  | i + 1, h => fun j hj => by
    rw [encTo_step]
    show inE 11 i (encTo (rkS 4 zeroK) 11 f i) j ^^^ rkS 4 zeroK i j = _
    rw [eq_inE 11 i (enc_tab f st h0 hs i (by omega)) j hj, rk_zx (by omega) hj]
    exact hs ⟨i, by omega⟩ ⟨j, hj⟩
theorem zs_all : ∀ i : Fin 11, ∀ j : Fin 16, inE 11 i.val (zsK i.val) j.val ^^^ zxW (4 * i.val + j.val / 4) (j.val % 4) = zsK (i.val + 1) j.val := by decide +kernel
theorem zt_all : ∀ i : Fin 11, ∀ j : Fin 16, inE 11 i.val (ztK i.val) j.val ^^^ zxW (4 * i.val + j.val / 4) (j.val % 4) = ztK (i.val + 1) j.val := by decide +kernel
theorem zu_all : ∀ i : Fin 11, ∀ j : Fin 16, inE 11 i.val (zuK i.val) j.val ^^^ zxW (4 * i.val + j.val / 4) (j.val % 4) = zuK (i.val + 1) j.val := by decide +kernel
theorem zs_zero : ∀ j : Fin 16, zsK 0 j.val = 0 := by decide +kernel
theorem zt_zero : ∀ j : Fin 16, ztK 0 j.val = zsK 11 j.val := by decide +kernel
theorem zu_zero : ∀ j : Fin 16, zuK 0 j.val = dbl (zsK 11) j.val := by decide +kernel
theorem num_zero : EqK (numK 0) zeroK := fun j _ => by unfold numK zeroK; split <;> simp
/-- The tweak of number 0. -/
theorem tw_zx : EqK (twF 4 zeroK 0) (zsK 11) := by
  show EqK (encTo (rkS 4 zeroK) 11 (numK 0) 11) (zsK 11)
  exact enc_tab _ zsK (fun j hj => (num_zero j hj).trans (zs_zero ⟨j, hj⟩).symm) zs_all 11 (Nat.le_refl _)
theorem eq_dbl {f g : Nat → Nat} (h : EqK f g) : EqK (dbl f) (dbl g) := fun j hj => by
  have hc : ∀ i, i < 16 → carry f i = carry g i := fun i hi => by
    unfold carry; split
    · rfl
    · rw [h _ (by omega)]
  unfold dbl dbl0
  split
  · rw [hc 0 (by omega), h 0 (by omega), h 15 (by omega)]
  · rw [hc j hj, h j hj]
theorem tw_zy : EqK (twk (twF 4 zeroK 0) 1) (zuK 0) := fun j hj => (eq_dbl tw_zx j hj).trans (zu_zero ⟨j, hj⟩).symm
theorem xor_zero16 {f : Nat → Nat} (i : Nat) : EqK (xorK f (blk zeroK i)) f := fun j _ => by show f j ^^^ 0 = f j; rw [Nat.xor_zero]
theorem wB_tab {t : Nat → Nat} {st : Nat → Nat → Nat} (i : Nat) (h : EqK t (st 0)) (hs : ∀ i : Fin 11, ∀ j : Fin 16, inE 11 i.val (st i.val) j.val ^^^ zxW (4 * i.val + j.val / 4) (j.val % 4) = st (i.val + 1) j.val) : ∀ j, j < 16 → wB false (rkS 4 zeroK) 11 t (blk zeroK i) j = st 0 j ^^^ st 11 j := fun j hj => by
  show t j ^^^ encTo (rkS 4 zeroK) 11 (xorK t (blk zeroK i)) 11 j = _
  rw [h j hj, enc_tab _ st ((xor_zero16 i).trans h) hs 11 (Nat.le_refl _) j hj]
theorem example_first : txtW false (rkS 4 zeroK) 11 (twF 4 zeroK 0) 32 zeroK 0 = 145 := by
  have := txtW_in (b := false) (R := rkS 4 zeroK) (T := 11) (t := twF 4 zeroK 0) (N := 32) (F := zeroK) (i := 0) (j := 0) (.inl ⟨rfl, by decide⟩) (by decide)
  rw [show 16 * 0 + 0 = 0 from rfl] at this
  rw [this, twk_zero, wB_tab (st := ztK) 0 (fun j hj => (tw_zx j hj).trans (zt_zero ⟨j, hj⟩).symm) zt_all 0 (by decide)]
  decide +kernel
theorem example_last : txtW false (rkS 4 zeroK) 11 (twF 4 zeroK 0) 32 zeroK 31 = 46 := by
  have := txtW_in (b := false) (R := rkS 4 zeroK) (T := 11) (t := twF 4 zeroK 0) (N := 32) (F := zeroK) (i := 1) (j := 15) (.inl ⟨rfl, by decide⟩) (by decide)
  rw [show 16 * 1 + 15 = 31 from rfl] at this
  rw [this, wB_tab (st := zuK) 1 tw_zy zu_all 15 (by decide)]
  decide +kernel
end Go.Proofs.Ytklnnmlegagfoaa

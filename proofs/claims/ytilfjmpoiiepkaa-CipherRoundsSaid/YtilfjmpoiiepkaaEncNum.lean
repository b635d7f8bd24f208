/- Plain mathematics of the cipher's rounds: to decrypt undoes to encrypt and the other way round, with any round keys. Condition: all bytes are bytes. -/
import Derived.Test.YtilfjmpoiiepkaaColC
import Derived.Test.YtilfjmpoiiepkaaMixNum
import Derived.Test.YtilfjmpoiiepkaaShiftC
import Derived.Test.YtilfjmpoiiepkaaSubNum
namespace Go.Proofs.Ytilfjmpoiiepkaa
open Go

def subK (f : Nat → Nat) : Nat → Nat := fun i => subN (f i)
def bakK (f : Nat → Nat) : Nat → Nat := fun i => backN (f i)
theorem subK_key {f : Nat → Nat} (h : IsKey f) : IsKey (subK f) := fun j hj => subN_lt (h j hj)
theorem bakK_key {f : Nat → Nat} (h : IsKey f) : IsKey (bakK f) := fun j hj => backN_lt (h j hj)
/-- A round there: what is done ahead of the sum. -/
def inE (n i : Nat) (s : Nat → Nat) : Nat → Nat := if i = 0 then s else if i + 1 < n then colK mixK (shK (subK s)) else shK (subK s)
def rndE (R : Nat → Nat → Nat) (n i : Nat) (s : Nat → Nat) : Nat → Nat := xorK (inE n i s) (R i)
/-- A round back: what is done behind the sum. -/
def inD (n i : Nat) (t : Nat → Nat) : Nat → Nat := if i = 0 then t else if i + 1 < n then bakK (unK (colK unmK t)) else bakK (unK t)
def rndD (R : Nat → Nat → Nat) (n i : Nat) (s : Nat → Nat) : Nat → Nat := inD n i (xorK s (R i))
def encTo (R : Nat → Nat → Nat) (n : Nat) (f : Nat → Nat) : Nat → Nat → Nat
  | 0 => f
  | i + 1 => rndE R n i (encTo R n f i)
def decTo (R : Nat → Nat → Nat) (n : Nat) (f : Nat → Nat) : Nat → Nat → Nat
  | 0 => f
  | d + 1 => rndD R n (n - 1 - d) (decTo R n f d)
def encK (R : Nat → Nat → Nat) (n : Nat) (f : Nat → Nat) : Nat → Nat := encTo R n f n
def decK (R : Nat → Nat → Nat) (n : Nat) (f : Nat → Nat) : Nat → Nat := decTo R n f n
theorem encTo_step (R : Nat → Nat → Nat) (n : Nat) (f : Nat → Nat) (i : Nat) : encTo R n f (i + 1) = xorK (inE n i (encTo R n f i)) (R i) := rfl
theorem decTo_step (R : Nat → Nat → Nat) (n : Nat) (f : Nat → Nat) (d : Nat) : decTo R n f (d + 1) = inD n (n - 1 - d) (xorK (decTo R n f d) (R (n - 1 - d))) := rfl
theorem encK_is (R : Nat → Nat → Nat) (n : Nat) (f : Nat → Nat) : encK R n f = encTo R n f n := rfl
theorem decK_is (R : Nat → Nat → Nat) (n : Nat) (f : Nat → Nat) : decK R n f = decTo R n f n := rfl
theorem encTo_zero (R : Nat → Nat → Nat) (n : Nat) (f : Nat → Nat) : encTo R n f 0 = f := rfl
theorem decTo_zero (R : Nat → Nat → Nat) (n : Nat) (f : Nat → Nat) : decTo R n f 0 = f := rfl
theorem inE_first (n : Nat) (s : Nat → Nat) : inE n 0 s = s := rfl
theorem inE_zero {n i : Nat} (s : Nat → Nat) (h0 : i = 0) : inE n i s = s := by unfold inE; rw [if_pos h0]
theorem inD_zero {n i : Nat} (s : Nat → Nat) (h0 : i = 0) : inD n i s = s := by unfold inD; rw [if_pos h0]
theorem inE_mid {n i : Nat} (s : Nat → Nat) (h0 : i ≠ 0) (h1 : i + 1 < n) : inE n i s = colK mixK (shK (subK s)) := by unfold inE; rw [if_neg h0, if_pos h1]
theorem inE_last {n i : Nat} (s : Nat → Nat) (h0 : i ≠ 0) (h1 : ¬ i + 1 < n) : inE n i s = shK (subK s) := by unfold inE; rw [if_neg h0, if_neg h1]
theorem inD_first (n : Nat) (s : Nat → Nat) : inD n 0 s = s := rfl
theorem inD_mid {n i : Nat} (s : Nat → Nat) (h0 : i ≠ 0) (h1 : i + 1 < n) : inD n i s = bakK (unK (colK unmK s)) := by unfold inD; rw [if_neg h0, if_pos h1]
theorem inD_last {n i : Nat} (s : Nat → Nat) (h0 : i ≠ 0) (h1 : ¬ i + 1 < n) : inD n i s = bakK (unK s) := by unfold inD; rw [if_neg h0, if_neg h1]
theorem inE_key {s : Nat → Nat} (n i : Nat) (h : IsKey s) : IsKey (inE n i s) := by
  unfold inE; split
  · exact h
  · split
    · exact mixCol_key (shK_key (subK_key h))
    · exact shK_key (subK_key h)
theorem inD_key {s : Nat → Nat} (n i : Nat) (h : IsKey s) : IsKey (inD n i s) := by
  unfold inD; split
  · exact h
  · split
    · exact bakK_key (unK_key (unmCol_key h))
    · exact bakK_key (unK_key h)
theorem encTo_key {R : Nat → Nat → Nat} {n : Nat} {f : Nat → Nat} (hR : ∀ i, i < n → IsKey (R i)) (hf : IsKey f) : ∀ i, i ≤ n → IsKey (encTo R n f i)
  | 0, _ => hf
  | i + 1, h => xorK_key (inE_key n i (encTo_key hR hf i (by omega))) (hR i (by omega))
theorem decTo_key {R : Nat → Nat → Nat} {n : Nat} {f : Nat → Nat} (hR : ∀ i, i < n → IsKey (R i)) (hf : IsKey f) : ∀ d, d ≤ n → IsKey (decTo R n f d)
  | 0, _ => hf
  | d + 1, h => inD_key n _ (xorK_key (decTo_key hR hf d (by omega)) (hR _ (by omega)))

/-- The same key. -/
def EqK (f g : Nat → Nat) : Prop := ∀ j, j < 16 → f j = g j
theorem EqK.mk {f g : Nat → Nat} (h : EqK f g) : mk 16 f = mk 16 g := mk_ext h
theorem EqK.refl (f : Nat → Nat) : EqK f f := fun _ _ => rfl
theorem EqK.trans {f g h : Nat → Nat} (a : EqK f g) (b : EqK g h) : EqK f h := fun j hj => (a j hj).trans (b j hj)
theorem eq_sub {f g : Nat → Nat} (h : EqK f g) : EqK (subK f) (subK g) := fun j hj => by unfold subK; rw [h j hj]
theorem eq_bak {f g : Nat → Nat} (h : EqK f g) : EqK (bakK f) (bakK g) := fun j hj => by unfold bakK; rw [h j hj]
theorem eq_sh {f g : Nat → Nat} (h : EqK f g) : EqK (shK f) (shK g) := fun j _ => h _ (fromN_lt j)
theorem eq_un {f g : Nat → Nat} (h : EqK f g) : EqK (unK f) (unK g) := fun j _ => h _ (backP_lt j)
theorem eq_xor {f g a : Nat → Nat} (h : EqK f g) : EqK (xorK f a) (xorK g a) := fun j hj => by unfold xorK; rw [h j hj]
theorem mx_eq {f g : Nat → Nat} (a : Nat → Nat) (h : ∀ i, i < 4 → f i = g i) (k : Nat) : mxK f a k = mxK g a k := by
  simp only [mxK_at, h 0 (by omega), h 1 (by omega), h 2 (by omega), h 3 (by omega)]
theorem eq_mix {f g : Nat → Nat} (h : EqK f g) : EqK (colK mixK f) (colK mixK g) := fun j hj => mx_eq facM (fun i hi => h _ (by omega)) _
theorem eq_unm {f g : Nat → Nat} (h : EqK f g) : EqK (colK unmK f) (colK unmK g) := fun j hj => mx_eq facU (fun i hi => h _ (by omega)) _
theorem eq_inE {f g : Nat → Nat} (n i : Nat) (h : EqK f g) : EqK (inE n i f) (inE n i g) := by
  unfold inE; split
  · exact h
  · split
    · exact eq_mix (eq_sh (eq_sub h))
    · exact eq_sh (eq_sub h)
theorem eq_inD {f g : Nat → Nat} (n i : Nat) (h : EqK f g) : EqK (inD n i f) (inD n i g) := by
  unfold inD; split
  · exact h
  · split
    · exact eq_bak (eq_un (eq_unm h))
    · exact eq_bak (eq_un h)
theorem xor_twice (f a : Nat → Nat) : EqK (xorK (xorK f a) a) f := fun j _ => by
  show (f j ^^^ a j) ^^^ a j = f j
  rw [Nat.xor_assoc, Nat.xor_self, Nat.xor_zero]
theorem col_parts (m : (Nat → Nat) → Nat → Nat) (f : Nat → Nat) (c i : Nat) (hi : i < 4) : colAt (colK m f) c i = m (colAt f c) i := by
  unfold colAt colK
  rw [show (4 * c + i) / 4 = c by omega, show (4 * c + i) % 4 = i by omega]; rfl
theorem un_col {f : Nat → Nat} (h : IsKey f) : EqK (colK unmK (colK mixK f)) f := fun j hj => by
  show unmK (colAt (colK mixK f) (j / 4)) (j % 4) = f j
  have : unmK (colAt (colK mixK f) (j / 4)) (j % 4) = unmK (mixK (colAt f (j / 4))) (j % 4) := mx_eq facU (fun i hi => col_parts mixK f _ i hi) _
  rw [this, unm_mix (colAt_word h (by omega)) (by omega)]
  unfold colAt; congr 1; omega
theorem col_un {f : Nat → Nat} (h : IsKey f) : EqK (colK mixK (colK unmK f)) f := fun j hj => by
  show mixK (colAt (colK unmK f) (j / 4)) (j % 4) = f j
  have : mixK (colAt (colK unmK f) (j / 4)) (j % 4) = mixK (unmK (colAt f (j / 4))) (j % 4) := mx_eq facM (fun i hi => col_parts unmK f _ i hi) _
  rw [this, mix_unm (colAt_word h (by omega)) (by omega)]
  unfold colAt; congr 1; omega
theorem un_sh (f : Nat → Nat) : EqK (unK (shK f)) f := fun j hj => by show f (fromN (backP j)) = f j; rw [from_back hj]
theorem sh_un (f : Nat → Nat) : EqK (shK (unK f)) f := fun j hj => by show f (backP (fromN j)) = f j; rw [back_from hj]
theorem bak_sub {f : Nat → Nat} (h : IsKey f) : EqK (bakK (subK f)) f := fun j hj => back_sub (h j hj)
theorem sub_bak {f : Nat → Nat} (h : IsKey f) : EqK (subK (bakK f)) f := fun j hj => sub_back (h j hj)
theorem inD_inE {s : Nat → Nat} (n i : Nat) (h : IsKey s) : EqK (inD n i (inE n i s)) s := by
  unfold inD inE
  by_cases h0 : i = 0
  · rw [if_pos h0, if_pos h0]; exact EqK.refl s
  · rw [if_neg h0, if_neg h0]
    by_cases h1 : i + 1 < n
    · rw [if_pos h1, if_pos h1]
      exact (eq_bak ((eq_un (un_col (shK_key (subK_key h)))).trans (un_sh _))).trans (bak_sub h)
    · rw [if_neg h1, if_neg h1]
      exact (eq_bak (un_sh _)).trans (bak_sub h)
theorem inE_inD {s : Nat → Nat} (n i : Nat) (h : IsKey s) : EqK (inE n i (inD n i s)) s := by
  unfold inD inE
  by_cases h0 : i = 0
  · rw [if_pos h0, if_pos h0]; exact EqK.refl s
  · rw [if_neg h0, if_neg h0]
    by_cases h1 : i + 1 < n
    · rw [if_pos h1, if_pos h1]
      exact (eq_mix ((eq_sh (sub_bak (unK_key (unmCol_key h)))).trans (sh_un _))).trans (col_un h)
    · rw [if_neg h1, if_neg h1]
      exact (eq_sh (sub_bak (unK_key h))).trans (sh_un _)
theorem rnd_back {s : Nat → Nat} (R : Nat → Nat → Nat) (n i : Nat) (h : IsKey s) : EqK (rndD R n i (rndE R n i s)) s :=
  (eq_inD n i (xor_twice _ _)).trans (inD_inE n i h)
theorem rnd_there {s : Nat → Nat} (R : Nat → Nat → Nat) (n i : Nat) (h : IsKey s) (hR : IsKey (R i)) : EqK (rndE R n i (rndD R n i s)) s :=
  (eq_xor (inE_inD n i (xorK_key h hR))).trans (xor_twice _ _)
theorem dec_from {R : Nat → Nat → Nat} {n : Nat} {f : Nat → Nat} (hR : ∀ i, i < n → IsKey (R i)) (hf : IsKey f) : ∀ d, d ≤ n → EqK (decTo R n (encK R n f) d) (encTo R n f (n - d))
  | 0, _ => EqK.refl _
  | d + 1, h => by
    have ih := dec_from hR hf d (by omega)
    have e : encTo R n f (n - d) = rndE R n (n - 1 - d) (encTo R n f (n - 1 - d)) := by
      rw [show n - d = (n - 1 - d) + 1 by omega]; rfl
    rw [e] at ih
    have e2 : n - (d + 1) = n - 1 - d := by omega
    rw [e2]
    exact (eq_inD n _ (eq_xor ih)).trans (rnd_back R n (n - 1 - d) (encTo_key hR hf _ (by omega)))
theorem enc_from {R : Nat → Nat → Nat} {n : Nat} {f : Nat → Nat} (hR : ∀ i, i < n → IsKey (R i)) (hf : IsKey f) : ∀ i, i ≤ n → EqK (encTo R n (decK R n f) i) (decTo R n f (n - i))
  | 0, _ => EqK.refl _
  | i + 1, h => by
    have ih := enc_from hR hf i (by omega)
    have e : decTo R n f (n - i) = rndD R n i (decTo R n f (n - (i + 1))) := by
      rw [show n - i = (n - (i + 1)) + 1 by omega]
      show rndD R n (n - 1 - (n - (i + 1))) _ = _
      rw [show n - 1 - (n - (i + 1)) = i by omega]
    rw [e] at ih
    exact (eq_xor (eq_inE n i ih)).trans (rnd_there R n i (decTo_key hR hf _ (by omega)) (hR i (by omega)))
theorem dec_enc {R : Nat → Nat → Nat} {n : Nat} {f : Nat → Nat} (hR : ∀ i, i < n → IsKey (R i)) (hf : IsKey f) : mk 16 (decK R n (encK R n f)) = mk 16 f := by
  have := dec_from hR hf n (Nat.le_refl n)
  rw [Nat.sub_self] at this; exact this.mk
theorem enc_dec {R : Nat → Nat → Nat} {n : Nat} {f : Nat → Nat} (hR : ∀ i, i < n → IsKey (R i)) (hf : IsKey f) : mk 16 (encK R n (decK R n f)) = mk 16 f := by
  have := enc_from hR hf n (Nat.le_refl n)
  rw [Nat.sub_self] at this; exact this.mk
end Go.Proofs.Ytilfjmpoiiepkaa

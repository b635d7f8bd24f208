/- Plain mathematics of layer 7: a text wrapped and unwrapped, step by step; each undoes the other. Condition: all bytes are bytes. -/
import Derived.Test.YtghdeedglekphaaWrCipher
namespace Go.Proofs.Ytghdeedglekphaa
open Go

/-- Byte j of a number of eight bytes, the highest first. -/
def stN (s j : Nat) : Nat := s / 256 ^ (7 - j) % 256
theorem stN_lt (s j : Nat) : stN s j < 256 := Nat.mod_lt _ (by omega)
/-- A step's number added to a block's first half. -/
def numX (t : Nat) (k : Nat → Nat) : Nat → Nat := fun j => if j < 8 then k j ^^^ stN t j else k j
theorem numX_key {t : Nat} {k : Nat → Nat} (h : IsKey k) : IsKey (numX t k) := fun j hj => by
  unfold numX; split
  · exact xor_lt (h j hj) (stN_lt _ _)
  · exact h j hj
theorem numX_twice (t : Nat) (k : Nat → Nat) : numX t (numX t k) = k := funext fun j => by
  unfold numX; split
  · rw [Nat.xor_assoc, Nat.xor_self, Nat.xor_zero]
  · rfl
theorem eq_numX {f g : Nat → Nat} (t : Nat) (h : EqK f g) : EqK (numX t f) (numX t g) := fun j hj => by unfold numX; rw [h j hj]
/-- A and word i (from 0 on) of a row whose first eight bytes are A. -/
def gl (S : Nat → Nat) (i : Nat) : Nat → Nat := fun j => if j < 8 then S j else S (8 * i + j)
/-- A and word i laid back. -/
def lay (S : Nat → Nat) (i : Nat) (k : Nat → Nat) : Nat → Nat := fun p => if p < 8 then k p else if 8 * i + 8 ≤ p ∧ p < 8 * i + 16 then k (p - 8 * i) else S p
theorem gl_lay (S : Nat → Nat) (i : Nat) (k : Nat → Nat) : EqK (gl (lay S i k) i) k := fun j hj => by
  unfold gl lay
  by_cases h : j < 8
  · rw [if_pos h, if_pos h]
  · rw [if_neg h, if_neg (by omega), if_pos (by omega), show 8 * i + j - 8 * i = j by omega]
theorem lay_lay (S : Nat → Nat) (i : Nat) (k l : Nat → Nat) : lay (lay S i k) i l = lay S i l := funext fun p => by
  unfold lay
  by_cases h : p < 8
  · simp only [if_pos h]
  · by_cases h2 : 8 * i + 8 ≤ p ∧ p < 8 * i + 16
    · simp only [if_neg h, if_pos h2]
    · simp only [if_neg h, if_neg h2]
theorem lay_gl (S : Nat → Nat) (i : Nat) : lay S i (gl S i) = S := funext fun p => by
  unfold lay gl
  by_cases h : p < 8
  · rw [if_pos h, if_pos h]
  · rw [if_neg h]
    by_cases h2 : 8 * i + 8 ≤ p ∧ p < 8 * i + 16
    · rw [if_pos h2, if_neg (by omega), show 8 * i + (p - 8 * i) = p by omega]
    · rw [if_neg h2]
theorem lay_eq {k l : Nat → Nat} (S : Nat → Nat) (i : Nat) (h : EqK k l) : lay S i k = lay S i l := funext fun p => by
  unfold lay
  by_cases h1 : p < 8
  · rw [if_pos h1, if_pos h1]; exact h _ (by omega)
  · rw [if_neg h1, if_neg h1]
    by_cases h2 : 8 * i + 8 ≤ p ∧ p < 8 * i + 16
    · rw [if_pos h2, if_pos h2]; exact h _ (by omega)
    · rw [if_neg h2, if_neg h2]
/-- N bytes. -/
def IsRow (N : Nat) (S : Nat → Nat) : Prop := ∀ p, p < N → S p < 256
theorem gl_key {S : Nat → Nat} {n i : Nat} (h : IsRow (8 * n + 8) S) (hi : i < n) : IsKey (gl S i) := fun j hj => by
  unfold gl; split <;> exact h _ (by omega)
theorem lay_row {S k : Nat → Nat} {n i : Nat} (h : IsRow (8 * n + 8) S) (hk : IsKey k) : IsRow (8 * n + 8) (lay S i k) := fun p hp => by
  unfold lay; split
  · exact hk _ (by omega)
  · split
    · exact hk _ (by omega)
    · exact h p hp

section
variable (R : Nat → Nat → Nat) (T : Nat)
/-- The step with number t, at word i; and back. -/
def wS (t i : Nat) (S : Nat → Nat) : Nat → Nat := lay S i (numX t (encK R T (gl S i)))
def uS (t i : Nat) (S : Nat → Nat) : Nat → Nat := lay S i (decK R T (numX t (gl S i)))
/-- The first s steps; and as many back, the last one first. -/
def wTo (n : Nat) (S : Nat → Nat) : Nat → Nat → Nat
  | 0 => S
  | s + 1 => wS R T (s + 1) (s % n) (wTo n S s)
def uTo (n : Nat) (S : Nat → Nat) : Nat → Nat → Nat
  | 0 => S
  | d + 1 => uS R T (6 * n - d) ((6 * n - 1 - d) % n) (uTo n S d)
end
theorem wTo_step (R : Nat → Nat → Nat) (T n : Nat) (S : Nat → Nat) (s : Nat) : wTo R T n S (s + 1) = wS R T (s + 1) (s % n) (wTo R T n S s) := rfl
theorem uTo_step (R : Nat → Nat → Nat) (T n : Nat) (S : Nat → Nat) (d : Nat) : uTo R T n S (d + 1) = uS R T (6 * n - d) ((6 * n - 1 - d) % n) (uTo R T n S d) := rfl
theorem encK_key {R : Nat → Nat → Nat} {T : Nat} {f : Nat → Nat} (hR : ∀ i, i < T → IsKey (R i)) (hf : IsKey f) : IsKey (encK R T f) := encTo_key hR hf T (Nat.le_refl _)
theorem decK_key {R : Nat → Nat → Nat} {T : Nat} {f : Nat → Nat} (hR : ∀ i, i < T → IsKey (R i)) (hf : IsKey f) : IsKey (decK R T f) := decTo_key hR hf T (Nat.le_refl _)
theorem eq_enc {f g : Nat → Nat} (R : Nat → Nat → Nat) (T : Nat) (h : EqK f g) : EqK (encK R T f) (encK R T g) := eq_cip false R T h
theorem eq_dec {f g : Nat → Nat} (R : Nat → Nat → Nat) (T : Nat) (h : EqK f g) : EqK (decK R T f) (decK R T g) := eq_cip true R T h
theorem dec_back {R : Nat → Nat → Nat} {T : Nat} {f : Nat → Nat} (hR : ∀ i, i < T → IsKey (R i)) (hf : IsKey f) : EqK (decK R T (encK R T f)) f := cip_back (b := false) hR hf
theorem enc_back {R : Nat → Nat → Nat} {T : Nat} {f : Nat → Nat} (hR : ∀ i, i < T → IsKey (R i)) (hf : IsKey f) : EqK (encK R T (decK R T f)) f := cip_back (b := true) hR hf
theorem wS_row {R : Nat → Nat → Nat} {T n i : Nat} {S : Nat → Nat} (hR : ∀ i, i < T → IsKey (R i)) (t : Nat) (h : IsRow (8 * n + 8) S) (hi : i < n) : IsRow (8 * n + 8) (wS R T t i S) :=
  lay_row h (numX_key (encK_key hR (gl_key h hi)))
theorem uS_row {R : Nat → Nat → Nat} {T n i : Nat} {S : Nat → Nat} (hR : ∀ i, i < T → IsKey (R i)) (t : Nat) (h : IsRow (8 * n + 8) S) (hi : i < n) : IsRow (8 * n + 8) (uS R T t i S) :=
  lay_row h (decK_key hR (numX_key (gl_key h hi)))
theorem wTo_row {R : Nat → Nat → Nat} {T n : Nat} {S : Nat → Nat} (hR : ∀ i, i < T → IsKey (R i)) (hn : 0 < n) (h : IsRow (8 * n + 8) S) : ∀ s, IsRow (8 * n + 8) (wTo R T n S s)
  | 0 => h
  | s + 1 => wS_row hR _ (wTo_row hR hn h s) (Nat.mod_lt _ hn)
theorem uTo_row {R : Nat → Nat → Nat} {T n : Nat} {S : Nat → Nat} (hR : ∀ i, i < T → IsKey (R i)) (hn : 0 < n) (h : IsRow (8 * n + 8) S) : ∀ s, IsRow (8 * n + 8) (uTo R T n S s)
  | 0 => h
  | s + 1 => uS_row hR _ (uTo_row hR hn h s) (Nat.mod_lt _ hn)
theorem u_w {R : Nat → Nat → Nat} {T n i : Nat} {S : Nat → Nat} (hR : ∀ i, i < T → IsKey (R i)) (t : Nat) (h : IsRow (8 * n + 8) S) (hi : i < n) : uS R T t i (wS R T t i S) = S := by
  unfold uS
  have e : EqK (decK R T (numX t (gl (wS R T t i S) i))) (gl S i) := by
    refine (eq_dec R T (eq_numX t (gl_lay S i _))).trans ?_
    rw [numX_twice]; exact dec_back hR (gl_key h hi)
  rw [lay_eq _ i e]
  show lay (lay S i _) i _ = S
  rw [lay_lay, lay_gl]
theorem w_u {R : Nat → Nat → Nat} {T n i : Nat} {S : Nat → Nat} (hR : ∀ i, i < T → IsKey (R i)) (t : Nat) (h : IsRow (8 * n + 8) S) (hi : i < n) : wS R T t i (uS R T t i S) = S := by
  unfold wS
  have e : EqK (numX t (encK R T (gl (uS R T t i S) i))) (gl S i) := by
    refine (eq_numX t ((eq_enc R T (gl_lay S i _)).trans (enc_back hR (numX_key (gl_key h hi))))).trans ?_
    rw [numX_twice]; exact EqK.refl _
  rw [lay_eq _ i e]
  show lay (lay S i _) i _ = S
  rw [lay_lay, lay_gl]
/-- To unwrap undoes to wrap, step by step; and the other way round. -/
theorem u_from {R : Nat → Nat → Nat} {T n : Nat} {S : Nat → Nat} (hR : ∀ i, i < T → IsKey (R i)) (hn : 0 < n) (h : IsRow (8 * n + 8) S) : ∀ d, d ≤ 6 * n → uTo R T n (wTo R T n S (6 * n)) d = wTo R T n S (6 * n - d)
  | 0, _ => rfl
  | d + 1, hd => by
    rw [uTo_step, u_from hR hn h d (by omega), show 6 * n - d = (6 * n - (d + 1)) + 1 by omega, wTo_step, show 6 * n - 1 - d = 6 * n - (d + 1) by omega]
    exact u_w hR _ (wTo_row hR hn h _) (Nat.mod_lt _ hn)
theorem w_from {R : Nat → Nat → Nat} {T n : Nat} {S : Nat → Nat} (hR : ∀ i, i < T → IsKey (R i)) (hn : 0 < n) (h : IsRow (8 * n + 8) S) : ∀ s, s ≤ 6 * n → wTo R T n (uTo R T n S (6 * n)) s = uTo R T n S (6 * n - s)
  | 0, _ => rfl
  | s + 1, hs => by
    have e : uTo R T n S (6 * n - s) = uS R T (s + 1) (s % n) (uTo R T n S (6 * n - (s + 1))) := by
      rw [show 6 * n - s = (6 * n - (s + 1)) + 1 by omega, uTo_step, show 6 * n - (6 * n - (s + 1)) = s + 1 by omega, show 6 * n - 1 - (6 * n - (s + 1)) = s by omega]
    rw [wTo_step, w_from hR hn h s (by omega), e]
    exact w_u hR _ (uTo_row hR hn h _) (Nat.mod_lt _ hn)
theorem unwrapped {R : Nat → Nat → Nat} {T n : Nat} {S : Nat → Nat} (hR : ∀ i, i < T → IsKey (R i)) (hn : 0 < n) (h : IsRow (8 * n + 8) S) : uTo R T n (wTo R T n S (6 * n)) (6 * n) = S := by
  rw [u_from hR hn h _ (Nat.le_refl _), Nat.sub_self]; rfl
theorem wrapped {R : Nat → Nat → Nat} {T n : Nat} {S : Nat → Nat} (hR : ∀ i, i < T → IsKey (R i)) (hn : 0 < n) (h : IsRow (8 * n + 8) S) : wTo R T n (uTo R T n S (6 * n)) (6 * n) = S := by
  rw [w_from hR hn h _ (Nat.le_refl _), Nat.sub_self]; rfl
/-- A text behind A, ahead of all steps; and the text behind any A. -/
def ini (F : Nat → Nat) : Nat → Nat := fun p => if p < 8 then 166 else F (p - 8)
def txt (S : Nat → Nat) : Nat → Nat := fun p => S (p + 8)
theorem txt_ini (F : Nat → Nat) : txt (ini F) = F := funext fun p => by unfold txt ini; rw [if_neg (by omega), Nat.add_sub_cancel]
theorem ini_txt {S : Nat → Nat} (h : ∀ p, p < 8 → S p = 166) : ini (txt S) = S := funext fun p => by
  unfold ini txt; split
  · exact (h p (by assumption)).symm
  · rw [Nat.sub_add_cancel (by omega)]
theorem ini_row {n : Nat} {F : Nat → Nat} (h : IsRow (8 * n) F) : IsRow (8 * n + 8) (ini F) := fun p hp => by
  unfold ini; split
  · omega
  · exact h _ (by omega)
theorem txt_row {n : Nat} {S : Nat → Nat} (h : IsRow (8 * n + 8) S) : IsRow (8 * n) (txt S) := fun p hp => h _ (by omega)
/-- What a text of n words is wrapped to; and what a row of n + 1 words is unwrapped to, with its A. -/
def wrpN (R : Nat → Nat → Nat) (T n : Nat) (F : Nat → Nat) : Nat → Nat := wTo R T n (ini F) (6 * n)
def unwN (R : Nat → Nat → Nat) (T n : Nat) (S : Nat → Nat) : Nat → Nat := uTo R T n S (6 * n)
/-- A is as it was ahead of all steps. -/
def sure (S : Nat → Nat) : Bool := (List.range 8).all fun p => S p == 166
theorem sure_yes {S : Nat → Nat} (h : sure S = true) : ∀ p, p < 8 → S p = 166 := fun p hp => by
  have := List.all_eq_true.1 h p (List.mem_range.2 hp)
  simpa using this
theorem sure_ini (F : Nat → Nat) : sure (ini F) = true := List.all_eq_true.2 fun p hp => by unfold ini; rw [if_pos (List.mem_range.1 hp)]; rfl
theorem wrpN_row {R : Nat → Nat → Nat} {T n : Nat} {F : Nat → Nat} (hR : ∀ i, i < T → IsKey (R i)) (hn : 0 < n) (h : IsRow (8 * n) F) : IsRow (8 * n + 8) (wrpN R T n F) := wTo_row hR hn (ini_row h) _
theorem unwN_row {R : Nat → Nat → Nat} {T n : Nat} {S : Nat → Nat} (hR : ∀ i, i < T → IsKey (R i)) (hn : 0 < n) (h : IsRow (8 * n + 8) S) : IsRow (8 * n + 8) (unwN R T n S) := uTo_row hR hn h _
theorem unw_wrp {R : Nat → Nat → Nat} {T n : Nat} {F : Nat → Nat} (hR : ∀ i, i < T → IsKey (R i)) (hn : 0 < n) (h : IsRow (8 * n) F) : unwN R T n (wrpN R T n F) = ini F := unwrapped hR hn (ini_row h)
theorem wrp_unw {R : Nat → Nat → Nat} {T n : Nat} {S : Nat → Nat} (hR : ∀ i, i < T → IsKey (R i)) (hn : 0 < n) (h : IsRow (8 * n + 8) S) (hs : sure (unwN R T n S) = true) : wrpN R T n (txt (unwN R T n S)) = S := by
  unfold wrpN; rw [ini_txt (sure_yes hs)]; exact wrapped hR hn h
end Go.Proofs.Ytghdeedglekphaa

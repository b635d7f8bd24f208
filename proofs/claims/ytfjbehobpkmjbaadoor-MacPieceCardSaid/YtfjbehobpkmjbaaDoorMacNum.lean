/- Plain mathematics of tags: a key's piece, the masks, what a tag is. Conditions: as each lemma says. -/
import Derived.Test.YtfjbehobpkmjbaaDoorOfC
import Derived.Test.YtfjbehobpkmjbaaDoorQuietA
namespace Go.Proofs.YtfjbehobpkmjbaaDoor
open Go

theorem allB_congr {n : Nat} {f g : Nat → Nat} (h : ∀ i, i < n → f i = g i) : allB n f = allB n g := by
  funext i; unfold allB
  by_cases e : i < n
  · rw [if_pos e, if_pos e, h i e]
  · rw [if_neg e, if_neg e]
theorem digF_congr {n : Nat} {f g : Nat → Nat} (h : ∀ i, i < n → f i = g i) : digF n f = digF n g := by unfold digF; rw [allB_congr h]
/-- A key's piece. -/
def pieK (n : Nat) (g : Nat → Nat) : Nat → Nat := if 64 < n then inG 32 64 (digF n g) zeroK else inG n 64 g zeroK
theorem pieK_long {n : Nat} (h : 64 < n) (g : Nat → Nat) : pieK n g = inG 32 64 (digF n g) zeroK := if_pos h
theorem pieK_short {n : Nat} (h : n ≤ 64) (g : Nat → Nat) : pieK n g = inG n 64 g zeroK := if_neg (by omega)
theorem pieK_lt {n : Nat} {g : Nat → Nat} (hg : ∀ i, i < n → g i < 256) : ∀ i, i < 64 → pieK n g i < 256 := by
  unfold pieK; split
  · exact inG_lt (fun i _ => digF_lt _ _ i) (fun i _ => by show (0 : Nat) < 256; omega)
  · exact inG_lt hg (fun i _ => by show (0 : Nat) < 256; omega)
/-- A piece with a mask. -/
def mskB (m : Nat) (f : Nat → Nat) : Nat → Nat := fun j => f j ^^^ m
theorem mskB_lt {m : Nat} {f : Nat → Nat} (hm : m < 256) (hf : ∀ i, i < 64 → f i < 256) : ∀ i, i < 64 → mskB m f i < 256 := fun i hi => xor_lt (hf i hi) hm
def mskTo (m : Nat) (f : Nat → Nat) (k : Nat) : Nat → Nat := fun j => if j < k then mskB m f j else f j
theorem mskTo_zero (m : Nat) (f : Nat → Nat) : mskTo m f 0 = f := by funext j; unfold mskTo; rw [if_neg (by omega)]
theorem mskTo_end (m : Nat) (f : Nat → Nat) : mk 64 (mskTo m f 64) = mk 64 (mskB m f) := mk_ext fun _ hj => if_pos hj
theorem mskTo_at (m : Nat) (f : Nat → Nat) (k : Nat) : mskTo m f k k = f k := if_neg (by omega)
theorem mskTo_step (m : Nat) (f : Nat → Nat) (k : Nat) {v : Int} (hv : v = (mskB m f k : Nat)) : (mk 64 (mskTo m f k)).set k v = mk 64 (mskTo m f (k + 1)) :=
  mk_set_is hv fun j _ => by
    unfold mskTo
    by_cases e : j = k
    · subst e; rw [if_pos rfl, if_pos (by omega)]
    · rw [if_neg e]
      by_cases h2 : j < k
      · rw [if_pos h2, if_pos (by omega)]
      · rw [if_neg h2, if_neg (by omega)]
/-- Two texts, one behind the other. -/
def cat2 (n : Nat) (f g : Nat → Nat) : Nat → Nat := fun j => if j < n then f j else g (j - n)
theorem cat2_lt {n m : Nat} {f g : Nat → Nat} (hf : ∀ i, i < n → f i < 256) (hg : ∀ i, i < m → g i < 256) : ∀ i, i < n + m → cat2 n f g i < 256 := fun i hi => by
  unfold cat2; split
  · exact hf _ (by omega)
  · exact hg _ (by omega)
theorem cat2_low {n : Nat} {f g : Nat → Nat} {j : Nat} (h : j < n) : cat2 n f g j = f j := if_pos h
theorem cat2_high (n : Nat) (f g : Nat → Nat) (j : Nat) : cat2 n f g (n + j) = g j := by unfold cat2; rw [if_neg (by omega), Nat.add_sub_cancel_left]
theorem cat2_congr {n m : Nat} {f g f' g' : Nat → Nat} (hf : ∀ i, i < n → f i = f' i) (hg : ∀ i, i < m → g i = g' i) : ∀ i, i < n + m → cat2 n f g i = cat2 n f' g' i := fun i hi => by
  unfold cat2
  by_cases h : i < n
  · rw [if_pos h, if_pos h, hf i h]
  · rw [if_neg h, if_neg h, hg _ (by omega)]
/-- The inner digest, and the tag, with a piece. -/
def innF (K : Nat → Nat) (n : Nat) (g : Nat → Nat) : Nat → Nat := digF (64 + n) (cat2 64 (mskB 54 K) g)
def tagP (K : Nat → Nat) (n : Nat) (g : Nat → Nat) : Nat → Nat := digF 96 (cat2 64 (mskB 92 K) (innF K n g))
theorem innF_lt (K : Nat → Nat) (n : Nat) (g : Nat → Nat) (i : Nat) : innF K n g i < 256 := digF_lt _ _ _
theorem tagP_lt (K : Nat → Nat) (n : Nat) (g : Nat → Nat) (i : Nat) : tagP K n g i < 256 := digF_lt _ _ _
theorem tagP_congr {K K' : Nat → Nat} {n : Nat} {g g' : Nat → Nat} (hK : ∀ i, i < 64 → K i = K' i) (hg : ∀ i, i < n → g i = g' i) : tagP K n g = tagP K' n g' := by
  have m : ∀ m i, i < 64 → mskB m K i = mskB m K' i := fun m i hi => by unfold mskB; rw [hK i hi]
  have hi : innF K n g = innF K' n g' := digF_congr (cat2_congr (m 54) hg)
  unfold tagP
  rw [hi]
  exact digF_congr (cat2_congr (m := 32) (m 92) (fun _ _ => rfl))
/-- A key's tag. -/
def tagF (n : Nat) (g : Nat → Nat) (nt : Nat) (gt : Nat → Nat) : Nat → Nat := tagP (pieK n g) nt gt
theorem tagF_lt (n : Nat) (g : Nat → Nat) (nt : Nat) (gt : Nat → Nat) (i : Nat) : tagF n g nt gt i < 256 := tagP_lt _ _ _ _
theorem tagF_congr {n nt : Nat} {g : Nat → Nat} {gt gt' : Nat → Nat} (h : ∀ i, i < nt → gt i = gt' i) : tagF n g nt gt = tagF n g nt gt' := tagP_congr (fun _ _ => rfl) h
theorem pieK_is {n : Nat} (K : Nat → Nat) (h : n = 64) (i : Nat) (hi : i < 64) : pieK n K i = K i := by
  subst h; rw [pieK_short (by omega)]; unfold inG; simp; intro h; omega
/-- A piece has the key's own tags. -/
theorem tagF_piece (n : Nat) (g : Nat → Nat) (nt : Nat) (gt : Nat → Nat) : tagF 64 (pieK n g) nt gt = tagF n g nt gt := tagP_congr (fun i hi => pieK_is _ rfl i hi) (fun _ _ => rfl)
end Go.Proofs.YtfjbehobpkmjbaaDoor

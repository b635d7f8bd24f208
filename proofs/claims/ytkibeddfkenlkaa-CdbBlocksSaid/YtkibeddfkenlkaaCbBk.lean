/- Plain mathematics of commands and their bytes: a command is another one's bytes just if it is the same command. Conditions: as each says. -/
import Derived.Test.YtkibeddfkenlkaaCbDx
namespace Go.Proofs.Ytkibeddfkenlkaa
open Go.ChangeShapes Go.WideShapes Go.ChangeAt Go.RowKit
set_option linter.unusedVariables false
theorem allC_ext {x : CmdOf} {n : Nat} {g : Nat → Nat} {j : Nat} (hj : j < lenC x + n) : allC x (extF n g) j = allC x g j := by
  unfold allC cat extF
  by_cases h : j < lenC x
  · rw [if_pos h, if_pos h]
  · rw [if_neg h, if_neg h, if_pos (by omega)]
theorem allC_ext_lt {x : CmdOf} {n : Nat} {g : Nat → Nat} (hg : ∀ i, i < n → g i < 256) (j : Nat) : allC x (extF n g) j < 256 := by
  unfold allC cat
  split
  · exact bytes_lt _ j
  · exact extF_lt hg _
theorem valN_congr {G G' : Nat → Nat} {p k n : Nat} (h : ∀ j, j < n → G j = G' j) (hp : p + k ≤ n) : valN k (fun j => G (p + j)) = valN k (fun j => G' (p + j)) := valN_ext k fun i hi => h _ (by omega)
theorem raw_congr {n : Nat} {G G' : Nat → Nat} (h : ∀ j, j < n → G j = G' j) (h6 : 6 ≤ n) (h25 : ((G 0 : Nat) : Int) = 6 → 25 ≤ n) : rawC G = rawC G' ∧ rawN G n = rawN G' n ∧ ∀ j, j < n - 6 → dataF G j = dataF G' j := by
  have e0 := h 0 (by omega)
  refine ⟨?_, by unfold rawN; rw [e0], fun j hj => h _ (by omega)⟩
  unfold rawC
  rw [← e0, ← h 1 (by omega), valN_congr h (p := 2) (k := 2) (by omega), valN_congr h (p := 4) (k := 2) (by omega)]
  by_cases hk : ((G 0 : Nat) : Int) = 6
  · have l25 := h25 hk
    have er : rawO G = rawO G' := by
      unfold rawO
      rw [h 6 (by omega), h 23 (by omega), h 24 (by omega), valN_congr h (p := 7) (k := 8) (by omega), valN_congr h (p := 15) (k := 8) (by omega)]
    rw [er]
  · have : (((G 0 : Nat) : Int) == 6) = false := by simpa using hk
    rw [this]; rfl
theorem isC_congr {n : Nat} {G G' : Nat → Nat} (h : ∀ j, j < n → G j = G' j) (hi : isC n G = true) : isC n G' = true := by
  obtain ⟨h1, h2, h3, h4⟩ := isC_parts.1 hi
  obtain ⟨r1, r2, r3⟩ := raw_congr h h1 h2
  refine isC_parts.2 ⟨h1, ?_, ?_, ?_⟩
  · rw [← h 0 (by omega)]; exact h2
  · rw [← r1, ← r2]; exact h3
  · rw [← r1, ← r2]
    have e : mk n G' = mk n G := mk_ext fun j hj => (h j hj).symm
    rw [e, ← h4]
    refine mk_ext fun j hj => ?_
    unfold allC cat
    split
    · rfl
    · rename_i hlt
      refine (r3 _ ?_).symm
      have l6 : 6 ≤ lenC (rawC G) := by
        by_cases e : (rawC G).k = 6
        · rw [lenC_six e]; omega
        · rw [lenC_not e]; exact Nat.le_refl _
      have := (mk_inj h4).1
      omega
theorem back_same {x : CmdOf} {n m : Nat} {g gb : Nat → Nat} (h : GoodC x n) (hx : x.ok) (hb : isC m (extF m gb) = true) :
    sameB (rawC (extF m gb)) x (decide (mk (rawN (extF m gb) m) (dataF (extF m gb)) = mk n g)) = decide (mk (lenC x + n) (allC x g) = mk m gb) := by
  obtain ⟨h1, h2, h3, h4⟩ := isC_parts.1 hb
  have eg : mk m (extF m gb) = mk m gb := mk_ext fun j hj => by unfold extF; rw [if_pos hj]
  rw [Bool.eq_iff_iff, sameB_iff, decide_eq_true_eq, decide_eq_true_eq]
  constructor
  · rintro ⟨e1, e2⟩
    rw [← eg, ← h4, e1]
    obtain ⟨en, ej⟩ := mk_inj e2
    rw [en]
    refine mk_ext fun j hj => ?_
    unfold allC cat
    split
    · rfl
    · exact (ej _ (by rw [en]; omega)).symm
  · intro e
    obtain ⟨en, ej⟩ := mk_inj e
    subst en
    obtain ⟨r1, r2, r3⟩ := raw_all (g := g) h hx
    have hc : ∀ j, j < lenC x + n → extF (lenC x + n) gb j = allC x g j := fun j hj => by
      unfold extF; rw [if_pos hj]; exact (ej j hj).symm
    obtain ⟨s1, s2, s3⟩ := raw_congr hc h1 h2
    refine ⟨by rw [s1, r1], ?_⟩
    rw [s2, r2]
    refine mk_ext fun j hj => ?_
    have l6 : 6 ≤ lenC x := by
      by_cases e : x.k = 6
      · rw [lenC_six e]; omega
      · rw [lenC_not e]; exact Nat.le_refl _
    rw [s3 j (by omega), r3 j hj]
end Go.Proofs.Ytkibeddfkenlkaa

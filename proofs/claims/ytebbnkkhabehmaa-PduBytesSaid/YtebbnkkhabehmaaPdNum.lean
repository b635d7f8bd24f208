/- Plain mathematics of frames: which are in form, what their bytes say, and that they can be told from them again. Conditions: as each says. -/
import Derived.Test.YtebbnkkhabehmaaPdLaw
namespace Go.Proofs.Ytebbnkkhabehmaa
open Go.ChangeShapes Go.WideShapes Go.ChangeAt Go.RowKit
set_option linter.unusedVariables false
/-- A frame in form, its Data so many bytes long. -/
def inF (k n c : Int) (d : Nat) : Prop := (1 ≤ k ∧ k ≤ 8) ∧ (0 ≤ n ∧ n ≤ 4294967295) ∧ (0 ≤ c ∧ c ≤ 255) ∧ d ≤ 4096
instance (k n c : Int) (d : Nat) : Decidable (inF k n c d) := inferInstanceAs (Decidable (_ ∧ _))
/-- A frame's bytes. -/
def frT (k n c : Int) (d : Nat) (g : Nat → Nat) : Nat → Nat := fun j =>
  if j = 0 then k.toNat else if j < 5 then numF 4 n (j - 1) else if j = 5 then c.toNat else if j < 8 then numF 2 (d : Int) (j - 6) else g (j - 8)
theorem frT_0 (k n c : Int) (d : Nat) (g : Nat → Nat) : frT k n c d g 0 = k.toNat := rfl
theorem frT_n (k n c : Int) (d : Nat) (g : Nat → Nat) {j : Nat} (h : j < 4) : frT k n c d g (1 + j) = numF 4 n j := by
  unfold frT; rw [if_neg (by omega), if_pos (by omega)]; congr 1; omega
theorem frT_c (k n c : Int) (d : Nat) (g : Nat → Nat) : frT k n c d g 5 = c.toNat := rfl
theorem frT_d (k n c : Int) (d : Nat) (g : Nat → Nat) {j : Nat} (h : j < 2) : frT k n c d g (6 + j) = numF 2 (d : Int) j := by
  unfold frT; rw [if_neg (by omega), if_neg (by omega), if_neg (by omega), if_pos (by omega)]; congr 1; omega
theorem frT_g (k n c : Int) (d : Nat) (g : Nat → Nat) (j : Nat) : frT k n c d g (8 + j) = g j := by
  unfold frT; rw [if_neg (by omega), if_neg (by omega), if_neg (by omega), if_neg (by omega)]; congr 1; omega
/-- A place in a frame's bytes. -/
theorem place {j N : Nat} (h : j < N) : j = 0 ∨ (∃ i, i < 4 ∧ j = 1 + i) ∨ j = 5 ∨ (∃ i, i < 2 ∧ j = 6 + i) ∨ ∃ i, j = 8 + i := by
  rcases (show j = 0 ∨ (1 ≤ j ∧ j < 5) ∨ j = 5 ∨ (6 ≤ j ∧ j < 8) ∨ 8 ≤ j by omega) with h | h | h | h | h
  · exact .inl h
  · exact .inr (.inl ⟨j - 1, by omega, by omega⟩)
  · exact .inr (.inr (.inl h))
  · exact .inr (.inr (.inr (.inl ⟨j - 6, by omega, by omega⟩)))
  · exact .inr (.inr (.inr (.inr ⟨j - 8, by omega⟩)))
theorem frT_lt {k n c : Int} {d : Nat} {g : Nat → Nat} (h : inF k n c d) (hg : ∀ j, j < d → g j < 256) : ∀ j, j < 8 + d → frT k n c d g j < 256 := fun j hj => by
  obtain ⟨h1, h2, h3, h4⟩ := h
  rcases place hj with rfl | ⟨i, hi, rfl⟩ | rfl | ⟨i, hi, rfl⟩ | ⟨i, rfl⟩
  · rw [frT_0]; omega
  · rw [frT_n _ _ _ _ _ hi]; exact numF_lt _ _ _
  · rw [frT_c]; omega
  · rw [frT_d _ _ _ _ _ hi]; exact numF_lt _ _ _
  · rw [frT_g]; exact hg i (by omega)
theorem frT_ext {k n c : Int} {d : Nat} {g g' : Nat → Nat} (h : ∀ j, j < d → g j = g' j) : ∀ j, j < 8 + d → frT k n c d g j = frT k n c d g' j := fun j hj => by
  rcases place hj with rfl | ⟨i, hi, rfl⟩ | rfl | ⟨i, hi, rfl⟩ | ⟨i, rfl⟩
  · rfl
  · rw [frT_n _ _ _ _ _ hi, frT_n _ _ _ _ _ hi]
  · rfl
  · rw [frT_d _ _ _ _ _ hi, frT_d _ _ _ _ _ hi]
  · rw [frT_g, frT_g]; exact h i (by omega)
/-- What bytes say. -/
def kF (F : Nat → Nat) : Int := (F 0 : Nat)
def nF (F : Nat → Nat) : Int := (valN 4 (fun j => F (1 + j)) : Nat)
def cF (F : Nat → Nat) : Int := (F 5 : Nat)
def gF (F : Nat → Nat) : Nat → Nat := fun j => F (8 + j)
/-- Bytes that are a frame's. -/
def isF (N : Nat) (F : Nat → Nat) : Prop := 8 ≤ N ∧ inF (kF F) (nF F) (cF F) (N - 8) ∧ ∀ j, j < N → frT (kF F) (nF F) (cF F) (N - 8) (gF F) j = F j
theorem nF_lt {N : Nat} {F : Nat → Nat} (hF : ∀ j, j < N → F j < 256) (h8 : 8 ≤ N) : 0 ≤ nF F ∧ nF F ≤ 4294967295 := by
  have := valN_lt (g := fun j => F (1 + j)) 4 (fun i hi => hF _ (by omega))
  unfold nF
  omega
/-- What the row's length says is what matters. -/
theorem isF_iff {N : Nat} {F : Nat → Nat} (hF : ∀ j, j < N → F j < 256) : isF N F ↔ 8 ≤ N ∧ (1 ≤ F 0 ∧ F 0 ≤ 8) ∧ N ≤ 4104 ∧ valN 2 (fun j => F (6 + j)) = N - 8 := by
  constructor
  · rintro ⟨h8, ⟨h1, h2, h3, h4⟩, h⟩
    refine ⟨h8, by unfold kF at h1; omega, by omega, ?_⟩
    have e : valN 2 (fun j => F (6 + j)) = valN 2 (numF 2 ((N - 8 : Nat) : Int)) := valN_ext 2 fun i hi => by
      rw [← h (6 + i) (by omega), frT_d _ _ _ _ _ hi]
    have v := val_back 2 ((N - 8 : Nat) : Int)
    rw [e]
    have : ((N - 8 : Nat) : Int) % 256 ^ 2 = ((N - 8 : Nat) : Int) := by
      rw [show (256 : Int) ^ 2 = 65536 by decide]; omega
    omega
  · rintro ⟨h8, h1, h4, hv⟩
    have h5 := hF 5 (by omega)
    refine ⟨h8, ⟨by unfold kF; omega, nF_lt hF h8, by unfold cF; omega, by omega⟩, fun j hj => ?_⟩
    rcases place hj with rfl | ⟨i, hi, rfl⟩ | rfl | ⟨i, hi, rfl⟩ | ⟨i, rfl⟩
    · rw [frT_0]; unfold kF; omega
    · rw [frT_n _ _ _ _ _ hi]
      exact numF_val (g := fun j => F (1 + j)) (fun i hi => hF _ (by omega)) hi
    · rw [frT_c]; unfold cF; omega
    · rw [frT_d _ _ _ _ _ hi, ← hv]
      exact numF_val (g := fun j => F (6 + j)) (fun i hi => hF _ (by omega)) hi
    · rw [frT_g]; rfl
/-- What a frame's bytes say. -/
theorem say_k {k n c : Int} {d : Nat} {g : Nat → Nat} (h : inF k n c d) : kF (frT k n c d g) = k := by
  have := h.1; unfold kF; rw [frT_0]; omega
theorem say_c {k n c : Int} {d : Nat} {g : Nat → Nat} (h : inF k n c d) : cF (frT k n c d g) = c := by
  have := h.2.2.1; unfold cF; rw [frT_c]; omega
theorem say_n {k n c : Int} {d : Nat} {g : Nat → Nat} (h : inF k n c d) : nF (frT k n c d g) = n := by
  unfold nF
  rw [valN_ext 4 (g' := numF 4 n) (fun i hi => frT_n _ _ _ _ _ hi), val_back]
  have := h.2.1
  rw [show (256 : Int) ^ 4 = 4294967296 by decide]; omega
theorem say_g (k n c : Int) (d : Nat) (g : Nat → Nat) : gF (frT k n c d g) = g := by
  funext j; unfold gF; exact frT_g _ _ _ _ _ _
theorem say_d {k n c : Int} {d : Nat} {g : Nat → Nat} (h : d ≤ 65535) : valN 2 (fun j => frT k n c d g (6 + j)) = d := by
  have v := val_back 2 (d : Int)
  rw [valN_ext 2 (g' := numF 2 (d : Int)) (fun i hi => frT_d _ _ _ _ _ hi)]
  have : (d : Int) % 256 ^ 2 = (d : Int) := by
    rw [show (256 : Int) ^ 2 = 65536 by decide]; omega
  omega
/-- A frame's bytes are its own, and just in that length. -/
theorem isF_frT {k n c : Int} {d : Nat} {g : Nat → Nat} (h : inF k n c d) : isF (8 + d) (frT k n c d g) := by
  refine ⟨by omega, ?_, fun j hj => ?_⟩
  · rw [say_k h, say_n h, say_c h, show 8 + d - 8 = d by omega]; exact h
  · rw [say_k h, say_n h, say_c h, say_g, show 8 + d - 8 = d by omega]
theorem isF_len {k n c : Int} {d N : Nat} {g F : Nat → Nat} (h : inF k n c d) (hF : ∀ j, j < N → F j < 256) (he : ∀ j, j < 8 → F j = frT k n c d g j) (hi : isF N F) : N = 8 + d := by
  have h4 := h.2.2.2
  obtain ⟨h8, _, _, hv⟩ := (isF_iff hF).1 hi
  have := say_d (k := k) (n := n) (c := c) (g := g) (d := d) (by omega)
  rw [valN_ext 2 (g' := fun j => frT k n c d g (6 + j)) (fun i hi => he _ (by omega)), this] at hv
  omega
theorem isF_congr {N : Nat} {F F' : Nat → Nat} (h : ∀ j, j < N → F j = F' j) (h8 : 8 ≤ N) : kF F = kF F' ∧ nF F = nF F' ∧ cF F = cF F' ∧ ∀ j, j < N - 8 → gF F j = gF F' j := by
  refine ⟨?_, ?_, ?_, fun j hj => h _ (by omega)⟩
  · unfold kF; rw [h 0 (by omega)]
  · unfold nF; rw [valN_ext 4 (fun i hi => h (1 + i) (by omega))]
  · unfold cF; rw [h 5 (by omega)]
/-- The status of an error's number. -/
def stN (z : Int) : Int := if z = 0 then 0 else if z = 8 then 8 else if z = 9 then 24 else if z = 6 then 3 else 2
/-- A frame as a value. -/
def frA (k n c : Int) (p : Option Addr) (d cd : Nat) : Array Value := #[.int .i64 k, .int .i64 n, .int .i64 c, .slice p d cd]
theorem frA_size (k n c : Int) (p : Option Addr) (d cd : Nat) : (frA k n c p d cd).size = 4 := rfl
theorem frA_one (k n c : Int) (p : Option Addr) (d cd : Nat) : (frA k n c p d cd).all (·.oneCell') = true := by simp [frA, Value.oneCell']
theorem rowFr : IsRow 24 4 (frA 0 0 0 none 0 0) where
  under := ⟨_, Try.underlying24, rfl⟩
  size := by kernel_rfl
  zero := by kernel_rfl
  zsize := rfl
theorem boxFr {W : World} {O : Nat} {k n c : Int} {p : Option Addr} {d cd : Nat} (h : BoxA W O 24 (frA k n c p d cd)) : W.cell? ⟨O, 0, none⟩ = some (.int .i64 k) ∧ W.cell? ⟨O, 1, none⟩ = some (.int .i64 n) ∧ W.cell? ⟨O, 2, none⟩ = some (.int .i64 c) ∧ W.cell? ⟨O, 3, none⟩ = some (.slice p d cd) := ⟨h.cell 0, h.cell 1, h.cell 2, h.cell 3⟩
end Go.Proofs.Ytebbnkkhabehmaa

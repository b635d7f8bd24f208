/- Plain mathematics of trees of tags: rows of bytes, tags, trees, paths. Conditions: as each says. -/
import Derived.Test.YtccpecajbfpjdaaDoorPlBase
namespace Go.Proofs.YtccpecajbfpjdaaDoor
open Go Go.RowKit
/-- A row as a function from places to bytes; noughts behind its end. -/
def natF (s : List Int) (j : Nat) : Nat := (s.getD j 0).toNat
def IsBytes (s : List Int) : Prop := ∀ x ∈ s, 0 ≤ x ∧ x < 256
theorem natF_lt {s : List Int} (h : IsBytes s) (j : Nat) : natF s j < 256 := by
  unfold natF
  rcases Nat.lt_or_ge j s.length with hj | hj
  · rw [List.getD_eq_getElem?_getD, List.getElem?_eq_getElem hj, Option.getD_some]
    have := h _ (List.getElem_mem hj)
    omega
  · rw [List.getD_eq_getElem?_getD, List.getElem?_eq_none hj]; decide
theorem mk_natF {s : List Int} (h : IsBytes s) : mk s.length (natF s) = s := by
  apply List.ext_getElem
  · rw [mk_len]
  · intro i h1 h2
    have := h _ (List.getElem_mem h2)
    simp [mk, natF, h2]
    omega
theorem mk_bytes {n : Nat} {f : Nat → Nat} (h : ∀ i, i < n → f i < 256) : IsBytes (mk n f) := fun x hx => by
  obtain ⟨i, hi, rfl⟩ := List.mem_map.1 hx
  have := h i (List.mem_range.1 hi)
  omega
theorem natF_mk {n : Nat} {f : Nat → Nat} {j : Nat} (h : j < n) : natF (mk n f) j = f j := by unfold natF; rw [mk_get h]; rfl
theorem natF_out {s : List Int} {j : Nat} (h : s.length ≤ j) : natF s j = 0 := by unfold natF; rw [List.getD_eq_getElem?_getD, List.getElem?_eq_none h]; rfl
theorem natF_left {s t : List Int} {j : Nat} (h : j < s.length) : natF (s ++ t) j = natF s j := by unfold natF; rw [List.getD_eq_getElem?_getD, List.getD_eq_getElem?_getD, List.getElem?_append_left h]
theorem natF_right {s t : List Int} {j : Nat} (h : s.length ≤ j) : natF (s ++ t) j = natF t (j - s.length) := by unfold natF; rw [List.getD_eq_getElem?_getD, List.getD_eq_getElem?_getD, List.getElem?_append_right h]
theorem IsBytes.append {s t : List Int} (h : IsBytes s) (k : IsBytes t) : IsBytes (s ++ t) := fun x hx => (List.mem_append.1 hx).elim (h x) (k x)
/-- A tag: 32 bytes. -/
def IsSum (s : List Int) : Prop := s.length = 32 ∧ IsBytes s
theorem IsSum.mk' {s : List Int} (h : IsSum s) : mk 32 (natF s) = s := by have := mk_natF h.2; rw [h.1] at this; exact this
theorem isSum_mk {f : Nat → Nat} (h : ∀ i, i < 32 → f i < 256) : IsSum (mk 32 f) := ⟨mk_len _ _, mk_bytes h⟩
def nought : List Int := mk 32 zeroK
theorem nought_sum : IsSum nought := isSum_mk fun _ _ => by unfold zeroK; omega
/-! ### Trees as functions from numbers to tags -/
/-- A tree over leaves: number i; N: the tag over two children. -/
def ndF (N : Nat → List Int → List Int → List Int) (z : List Int) (lv : Nat → List Int) : Nat → Nat → List Int
  | 0, _ => z
  | d + 1, i => if i < 1 then z else if 16 ≤ i then lv (i - 16) else N i (ndF N z lv d (2 * i)) (ndF N z lv d (2 * i + 1))
theorem ndF_more (N : Nat → List Int → List Int → List Int) (z : List Int) (lv : Nat → List Int) : ∀ d i, i ≤ 31 → 32 ≤ i + d → ndF N z lv (d + 1) i = ndF N z lv d i
  | 0, i, h, k => by omega
  | d + 1, i, h, k => by
    show (if i < 1 then z else if 16 ≤ i then lv (i - 16) else N i (ndF N z lv (d + 1) (2 * i)) (ndF N z lv (d + 1) (2 * i + 1))) = if i < 1 then z else if 16 ≤ i then lv (i - 16) else N i (ndF N z lv d (2 * i)) (ndF N z lv d (2 * i + 1))
    by_cases h1 : i < 1
    · rw [if_pos h1, if_pos h1]
    rw [if_neg h1, if_neg h1]
    by_cases h2 : 16 ≤ i
    · rw [if_pos h2, if_pos h2]
    rw [if_neg h2, if_neg h2, ndF_more N z lv d (2 * i) (by omega) (by omega), ndF_more N z lv d (2 * i + 1) (by omega) (by omega)]
def treeF (N : Nat → List Int → List Int → List Int) (z : List Int) (lv : Nat → List Int) (i : Nat) : List Int := ndF N z lv 32 i
section
variable (N : Nat → List Int → List Int → List Int) (z : List Int) (lv : Nat → List Int)
theorem treeF_zero : treeF N z lv 0 = z := rfl
theorem treeF_leaf {i : Nat} (h : 16 ≤ i) : treeF N z lv i = lv (i - 16) := by
  unfold treeF; rw [ndF, if_neg (by omega), if_pos h]
theorem treeF_node {i : Nat} (h : 1 ≤ i) (k : i < 16) : treeF N z lv i = N i (treeF N z lv (2 * i)) (treeF N z lv (2 * i + 1)) := by
  unfold treeF
  rw [ndF_more N z lv 31 (2 * i) (by omega) (by omega), ndF_more N z lv 31 (2 * i + 1) (by omega) (by omega)]
  show ndF N z lv (31 + 1) i = _
  rw [ndF, if_neg (by omega), if_neg (by omega)]
end
/-- What all tags of a tree are: P. -/
theorem treeF_all {N : Nat → List Int → List Int → List Int} {z : List Int} {lv : Nat → List Int} {P : List Int → Prop} (hz : P z) (hl : ∀ i, i < 16 → P (lv i)) (hN : ∀ i a b, P a → P b → P (N i a b)) : ∀ (d i : Nat), i ≤ 31 → 32 ≤ i + d → P (treeF N z lv i)
  | 0, i, h, k => by omega
  | d + 1, i, h, k => by
    rcases Nat.lt_or_ge i 16 with h1 | h1
    · rcases Nat.lt_or_ge i 1 with h2 | h2
      · obtain rfl : i = 0 := by omega
        exact hz
      · rw [treeF_node N z lv h2 h1]
        exact hN _ _ _ (treeF_all hz hl hN d (2 * i) (by omega) (by omega)) (treeF_all hz hl hN d (2 * i + 1) (by omega) (by omega))
    · rw [treeF_leaf N z lv h1]; exact hl _ (by omega)
/-- A path's number k. -/
def pn (b k : Nat) : Nat := (16 + b) / 2 ^ k
theorem pn_zero (b : Nat) : pn b 0 = 16 + b := by simp [pn]
theorem pn_next (b k : Nat) : pn b (k + 1) = pn b k / 2 := by unfold pn; rw [Nat.pow_succ, Nat.div_div_eq_div_mul]
theorem pn_all : ∀ b, b < 16 → ∀ k, k < 5 → 1 ≤ pn b k ∧ pn b k < 32 ∧ (k = 4 ↔ pn b k = 1) ∧ (1 ≤ k → pn b k < 16) ∧ (k < 4 → 2 ≤ pn b k) := by decide
theorem pn_apart : ∀ b, b < 16 → ∀ k, k < 5 → ∀ j, j < 5 → pn b k = pn b j → k = j := by decide
theorem pn_one {b : Nat} (h : b < 16) : pn b 4 = 1 := ((pn_all b h 4 (by omega)).2.2.1).1 rfl
/-- The tag over a child and the child beside it. -/
def parF (N : Nat → List Int → List Int → List Int) (T : Nat → List Int) (i : Nat) (t : List Int) : List Int := if i % 2 = 0 then N (i / 2) t (T (i + 1)) else N (i / 2) (T (i - 1)) t
/-- What a leaf comes to, k steps up. -/
def climbF (N : Nat → List Int → List Int → List Int) (T : Nat → List Int) (b : Nat) (leaf : List Int) : Nat → List Int
  | 0 => leaf
  | k + 1 => parF N T (pn b k) (climbF N T b leaf k)
/-- A tree with another leaf: k numbers of the path laid. -/
def updF (N : Nat → List Int → List Int → List Int) (T : Nat → List Int) (b : Nat) (leaf : List Int) : Nat → Nat → List Int
  | 0 => T
  | k + 1 => fun i => if i = pn b k then climbF N T b leaf k else updF N T b leaf k i
section
variable {N : Nat → List Int → List Int → List Int} {T : Nat → List Int} {b : Nat} {leaf z : List Int} {lv : Nat → List Int}
theorem updF_off {k i : Nat} (h : ∀ j, j < k → i ≠ pn b j) : updF N T b leaf k i = T i := by
  induction k with
  | zero => rfl
  | succ k ih => unfold updF; rw [if_neg (h k (by omega)), ih fun j hj => h j (by omega)]
theorem updF_at (hb : b < 16) {k j : Nat} (hj : j < k) (hk : k ≤ 5) : updF N T b leaf k (pn b j) = climbF N T b leaf j := by
  induction k with
  | zero => omega
  | succ k ih =>
    unfold updF
    by_cases e : j = k
    · rw [e, if_pos rfl]
    · rw [if_neg (fun h => e (pn_apart b hb j (by omega) k (by omega) h)), ih (by omega) (by omega)]
theorem parF_tree {i : Nat} (hi : 2 ≤ i) (h31 : i < 32) : parF N (treeF N z lv) i (treeF N z lv i) = treeF N z lv (i / 2) := by
  unfold parF
  rw [treeF_node N z lv (i := i / 2) (by omega) (by omega)]
  by_cases h : i % 2 = 0
  · rw [if_pos h, show 2 * (i / 2) = i by omega]
  · rw [if_neg h, show 2 * (i / 2) = i - 1 by omega, show i - 1 + 1 = i by omega]
/-- A tree that was built: a leaf comes to its tags. -/
theorem climb_tree (hb : b < 16) : ∀ k, k < 5 → climbF N (treeF N z lv) b (lv b) k = treeF N z lv (pn b k)
  | 0, _ => by rw [pn_zero, treeF_leaf N z lv (by omega), show 16 + b - 16 = b by omega]; rfl
  | k + 1, h => by
    have := pn_all b hb k (by omega)
    rw [climbF, climb_tree hb k (by omega), parF_tree (this.2.2.2.2 (by omega)) this.2.1, pn_next]
theorem climb_root (hb : b < 16) : climbF N (treeF N z lv) b (lv b) 4 = treeF N z lv 1 := by rw [climb_tree hb 4 (by omega), pn_one hb]
def setLv (lv : Nat → List Int) (b : Nat) (o : List Int) : Nat → List Int := fun i => if i = b then o else lv i
theorem pair_sib {i p : Nat} (h : p / 2 = i) : (p % 2 = 0 ∧ p = 2 * i) ∨ (p % 2 = 1 ∧ p = 2 * i + 1) := by omega
/-- A node over a path's number: what it comes to. -/
theorem node_path {U : Nat → List Int} {i k : Nat} (hp : pn b k / 2 = i) (hc : U (pn b k) = climbF N T b leaf k) (ho : ∀ j, j / 2 = i → j ≠ pn b k → U j = T j) : N i (U (2 * i)) (U (2 * i + 1)) = climbF N T b leaf (k + 1) := by
  rw [climbF]
  unfold parF
  rcases pair_sib hp with ⟨h, e⟩ | ⟨h, e⟩
  · rw [if_pos h, hp, ← e, hc, ho (pn b k + 1) (by omega) (by omega)]
  · rw [if_neg (by omega), hp, ← e, hc, show 2 * i = pn b k - 1 by omega, ho (pn b k - 1) (by omega) (by omega)]
theorem upd_tree (hb : b < 16) (o : List Int) : ∀ (d i : Nat), i ≤ 31 → 32 ≤ i + d → treeF N z (setLv lv b o) i = updF N (treeF N z lv) b o 5 i
  | 0, i, h, k => by omega
  | d + 1, i, h, k => by
    rcases Nat.lt_or_ge i 16 with h1 | h1
    · rcases Nat.lt_or_ge i 1 with h2 | h2
      · obtain rfl : i = 0 := by omega
        rw [updF_off (fun j hj e => by have := (pn_all b hb j hj).1; omega)]; rfl
      · rw [treeF_node N z _ h2 h1, upd_tree hb o d (2 * i) (by omega) (by omega), upd_tree hb o d (2 * i + 1) (by omega) (by omega)]
        by_cases on : ∃ j, j < 4 ∧ pn b j / 2 = i
        · obtain ⟨j, hj, hp⟩ := on
          have e : i = pn b (j + 1) := by rw [pn_next]; exact hp.symm
          rw [node_path (U := updF N (treeF N z lv) b o 5) hp (updF_at hb (by omega) (by omega)) (fun m hm hn => updF_off fun q hq e' => ?_), ← updF_at hb (k := 5) (by omega) (by omega), ← e]
          subst e'
          have hq4 : q < 4 := by
            have := pn_one hb
            rcases Nat.lt_or_ge q 4 with h | h
            · exact h
            · obtain rfl : q = 4 := by omega
              rw [this] at hm; omega
          have : pn b (q + 1) = pn b (j + 1) := by rw [pn_next, hm, e]
          have := pn_apart b hb _ (by omega) _ (by omega) this
          exact hn (by rw [show q = j by omega])
        · rw [updF_off (fun j hj e' => ?_), updF_off (fun j hj e' => ?_), updF_off (fun j hj e' => ?_), treeF_node N z lv h2 h1]
          · have : pn b (j - 1) / 2 = i := by
              rw [← pn_next, e']
              have h0 : j ≠ 0 := fun h => by subst h; rw [pn_zero] at e'; omega
              rw [show j - 1 + 1 = j by omega]
            have h0 : j ≠ 0 := fun h => by subst h; rw [pn_zero] at e'; omega
            exact on ⟨j - 1, by omega, this⟩
          · have h4 : j ≠ 4 := fun h => by subst h; rw [pn_one hb] at e'; omega
            exact on ⟨j, by omega, by omega⟩
          · have h4 : j ≠ 4 := fun h => by subst h; rw [pn_one hb] at e'; omega
            exact on ⟨j, by omega, by omega⟩
    · rw [treeF_leaf N z _ h1]
      unfold setLv
      by_cases e : i - 16 = b
      · have : i = pn b 0 := by rw [pn_zero]; omega
        rw [if_pos e, this, updF_at hb (by omega) (by omega)]; rfl
      · rw [if_neg e, updF_off (fun j hj e' => ?_), treeF_leaf N z lv h1]
        have h0 : j = 0 := by
          rcases Nat.eq_zero_or_pos j with h | h
          · exact h
          · have := (pn_all b hb j hj).2.2.2.1 h; omega
        subst h0; rw [pn_zero] at e'; omega
/-- The document's update asks the tree as it stands: the same. -/
theorem upd_ref (hb : b < 16) {k : Nat} (hk : k < 4) : N (pn b (k + 1)) (updF N T b leaf (k + 1) (2 * pn b (k + 1))) (updF N T b leaf (k + 1) (2 * pn b (k + 1) + 1)) = climbF N T b leaf (k + 1) := by
  refine node_path (U := updF N T b leaf (k + 1)) (i := pn b (k + 1)) (pn_next b k).symm (updF_at hb (by omega) (by omega)) fun j hj hn => updF_off fun q hq e' => ?_
  subst e'
  have hq4 : q < 4 := by omega
  rw [← pn_next] at hj
  have := pn_apart b hb _ (by omega) _ (by omega) hj
  exact hn (by rw [show q = k by omega])
end
end Go.Proofs.YtccpecajbfpjdaaDoor

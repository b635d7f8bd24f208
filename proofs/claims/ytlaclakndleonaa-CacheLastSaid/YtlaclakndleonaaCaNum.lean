/- Plain mathematics of a cache: lines in the order of their use, and what each call does to them. Conditions: as each says. -/
import Derived.Test.YtlaclakndleonaaTrGives
namespace Go.Proofs.Ytlaclakndleonaa
open Go Go.RowKit
/-- A row as a function from places to bytes; noughts behind its end. -/
def natF (s : List Int) (j : Nat) : Nat := (s.getD j 0).toNat
def IsBytes (s : List Int) : Prop := ∀ x ∈ s, 0 ≤ x ∧ x < 256
theorem natF_lt {s : List Int} (h : IsBytes s) (j : Nat) : natF s j < 256 := by
  unfold natF
  rcases Nat.lt_or_ge j s.length with hj | hj
  · rw [List.getD_eq_getElem?_getD, List.getElem?_eq_getElem hj, Option.getD_some]
    have := h _ (List.getElem_mem hj)
    omega
  · rw [List.getD_eq_getElem?_getD, List.getElem?_eq_none hj]; decide
theorem mk_natF {s : List Int} (h : IsBytes s) : mk s.length (natF s) = s := by
  apply List.ext_getElem
  · rw [mk_len]
  · intro i h1 h2
    have := h _ (List.getElem_mem h2)
    simp [mk, natF, h2]
    omega
theorem mk_bytes {n : Nat} {f : Nat → Nat} (h : ∀ i, i < n → f i < 256) : IsBytes (mk n f) := fun x hx => by
  obtain ⟨i, hi, rfl⟩ := List.mem_map.1 hx
  have := h i (List.mem_range.1 hi)
  omega
theorem natF_mk {n : Nat} {f : Nat → Nat} {j : Nat} (h : j < n) : natF (mk n f) j = f j := by unfold natF; rw [mk_get h]; rfl
theorem natF_out {s : List Int} {j : Nat} (h : s.length ≤ j) : natF s j = 0 := by unfold natF; rw [List.getD_eq_getElem?_getD, List.getElem?_eq_none h]; rfl
theorem natF_left {s t : List Int} {j : Nat} (h : j < s.length) : natF (s ++ t) j = natF s j := by unfold natF; rw [List.getD_eq_getElem?_getD, List.getD_eq_getElem?_getD, List.getElem?_append_left h]
theorem natF_right {s t : List Int} {j : Nat} (h : s.length ≤ j) : natF (s ++ t) j = natF t (j - s.length) := by unfold natF; rw [List.getD_eq_getElem?_getD, List.getD_eq_getElem?_getD, List.getElem?_append_right h]
theorem IsBytes.append {s t : List Int} (h : IsBytes s) (k : IsBytes t) : IsBytes (s ++ t) := fun x hx => (List.mem_append.1 hx).elim (h x) (k x)
/-- A sector: 128 bytes. -/
def IsSec (s : List Int) : Prop := s.length = 128 ∧ IsBytes s
theorem IsSec.mk' {s : List Int} (h : IsSec s) : mk 128 (natF s) = s := by have := mk_natF h.2; rw [h.1] at this; exact this
theorem isSec_mk {f : Nat → Nat} (h : ∀ i, i < 128 → f i < 256) : IsSec (mk 128 f) := ⟨mk_len _ _, mk_bytes h⟩

/-- A line: its unit, its block, its bytes, whether it is dirty. -/
structure LineOf where
  u : Int
  b : Int
  c : List Int
  d : Bool
/-- An int of 64 bits. -/
def okI (z : Int) : Prop := -9223372036854775808 ≤ z ∧ z ≤ 9223372036854775807
def LineOf.ok (l : LineOf) : Prop := IsSec l.c ∧ okI l.u ∧ okI l.b
theorem LineOf.ext' {c d : LineOf} (h1 : c.u = d.u) (h2 : c.b = d.b) (h3 : c.c = d.c) (h4 : c.d = d.d) : c = d := by cases c; cases d; simp_all
/-- The line of nothing. -/
def noLine : LineOf := ⟨0, 0, mk 128 zeroK, false⟩
theorem noLine_ok : noLine.ok := ⟨isSec_mk fun _ _ => by unfold zeroK; omega, by unfold okI noLine; decide, by unfold okI noLine; decide⟩
/-- Is it the line of this block? -/
def LineOf.is (l : LineOf) (u b : Int) : Bool := l.u == u && l.b == b
theorem LineOf.is_iff {l : LineOf} {u b : Int} : l.is u b = true ↔ l.u = u ∧ l.b = b := by unfold LineOf.is; simp
theorem LineOf.is_not {l : LineOf} {u b : Int} : l.is u b = false ↔ ¬ (l.u = u ∧ l.b = b) := by rw [← LineOf.is_iff]; simp
/-- Where a block's line stands; how many there are: nowhere. -/
def findL (ls : List LineOf) (u b : Int) : Nat := ls.findIdx fun l => l.is u b
/-- Where the first clean line stands. -/
def cleanL (ls : List LineOf) : Nat := ls.findIdx fun l => !l.d
def lineAt (ls : List LineOf) (i : Nat) : LineOf := ls.getD i noLine
theorem lineAt_get {ls : List LineOf} {i : Nat} (h : i < ls.length) : ls[i]? = some (lineAt ls i) := by unfold lineAt; rw [List.getD_eq_getElem?_getD, List.getElem?_eq_getElem h]; rfl
theorem lineAt_mem {ls : List LineOf} {i : Nat} (h : i < ls.length) : lineAt ls i ∈ ls := List.mem_of_getElem? (lineAt_get h)
theorem lineAt_eq {ls : List LineOf} {i : Nat} (h : i < ls.length) : lineAt ls i = ls[i] := by have := lineAt_get h; rw [List.getElem?_eq_getElem h] at this; exact (Option.some.inj this).symm
theorem idx_le {p : LineOf → Bool} (ls : List LineOf) : ls.findIdx p ≤ ls.length := List.findIdx_le_length
theorem idx_here {p : LineOf → Bool} {ls : List LineOf} {i : Nat} (hi : i < ls.length) (h : i ≤ ls.findIdx p) (hp : p (lineAt ls i) = true) : ls.findIdx p = i := by
  rw [lineAt_eq hi] at hp
  rcases Nat.lt_or_ge i (ls.findIdx p) with hlt | hge
  · rw [List.not_of_lt_findIdx hlt] at hp; cases hp
  · omega
theorem idx_next {p : LineOf → Bool} {ls : List LineOf} {i : Nat} (hi : i < ls.length) (h : i ≤ ls.findIdx p) (hp : p (lineAt ls i) = false) : i + 1 ≤ ls.findIdx p := by
  rw [lineAt_eq hi] at hp
  rcases Nat.lt_or_ge i (ls.findIdx p) with hlt | hge
  · exact hlt
  · have e : ls.findIdx p = i := by omega
    have h2 : ls.findIdx p < ls.length := by omega
    have := List.findIdx_getElem (w := h2)
    simp only [e] at this
    rw [hp] at this; cases this
theorem idx_is {p : LineOf → Bool} {ls : List LineOf} (h : ls.findIdx p < ls.length) : p (lineAt ls (ls.findIdx p)) = true := by
  rw [lineAt_eq h]; exact List.findIdx_getElem
/-- The lines without one. -/
def outL (ls : List LineOf) (i : Nat) : List LineOf := ls.eraseIdx i
theorem outL_len {ls : List LineOf} {i : Nat} (h : i < ls.length) : (outL ls i).length = ls.length - 1 := List.length_eraseIdx_of_lt h
theorem outL_zero (ls : List LineOf) (i : Nat) : outL (ls.take 0) i = [] := by unfold outL; simp
theorem take_snoc {ls : List LineOf} {k : Nat} (hk : k < ls.length) : ls.take (k + 1) = ls.take k ++ [lineAt ls k] := by
  rw [List.take_add_one, List.getElem?_eq_getElem hk, lineAt_eq hk]; rfl
theorem outL_same {ls : List LineOf} {i k : Nat} (hk : k < ls.length) (h : k = i) : outL (ls.take (k + 1)) i = outL (ls.take k) i := by
  subst h
  have e1 : (ls.take k).length = k := by rw [List.length_take]; omega
  have e2 : (ls.take k).eraseIdx k = ls.take k := List.eraseIdx_of_length_le (by omega)
  unfold outL
  rw [take_snoc hk, List.eraseIdx_append_of_length_le (by omega), e1, Nat.sub_self, e2]
  simp
theorem outL_next {ls : List LineOf} {i k : Nat} (hk : k < ls.length) (h : k ≠ i) : outL (ls.take (k + 1)) i = outL (ls.take k) i ++ [lineAt ls k] := by
  have e1 : (ls.take k).length = k := by rw [List.length_take]; omega
  unfold outL
  rw [take_snoc hk]
  rcases Nat.lt_or_ge i k with hlt | hge
  · rw [List.eraseIdx_append_of_lt_length (by omega)]
  · have e2 : (ls.take k).eraseIdx i = ls.take k := List.eraseIdx_of_length_le (by omega)
    rw [List.eraseIdx_append_of_length_le (by omega), e1, e2, List.eraseIdx_of_length_le (by simp; omega)]
theorem mem_out {ls : List LineOf} {i : Nat} {l : LineOf} (h : l ∈ outL ls i) : l ∈ ls := List.mem_of_mem_eraseIdx h
/-- Get: the lines behind it. -/
def getL (ls : List LineOf) (u b : Int) : List LineOf := if findL ls u b < ls.length then outL ls (findL ls u b) ++ [lineAt ls (findL ls u b)] else ls
def gotL (ls : List LineOf) (u b : Int) : LineOf := if findL ls u b < ls.length then lineAt ls (findL ls u b) else noLine
/-- Put: the lines behind it; an error's number. -/
def putS (q : Int) (ls : List LineOf) (l : LineOf) : List LineOf :=
  if findL ls l.u l.b < ls.length then outL ls (findL ls l.u l.b) ++ [{ l with d := l.d || (lineAt ls (findL ls l.u l.b)).d }]
  else if q ≤ (ls.length : Int) then (if cleanL ls < ls.length then outL ls (cleanL ls) ++ [l] else ls)
  else ls ++ [l]
def putN (q : Int) (ls : List LineOf) (l : LineOf) : Int :=
  if findL ls l.u l.b < ls.length then 0 else if q ≤ (ls.length : Int) then (if cleanL ls < ls.length then 0 else 7) else 0
def dirtyL (ls : List LineOf) : List LineOf := ls.filter (·.d)
def cleanedL (ls : List LineOf) : List LineOf := ls.map fun l => { l with d := false }
def dropL (ls : List LineOf) (u : Int) : List LineOf := ls.filter fun l => !(l.u == u)
theorem dirtyL_zero (ls : List LineOf) : dirtyL (ls.take 0) = [] := rfl
theorem dirtyL_yes {ls : List LineOf} {k : Nat} (hk : k < ls.length) (h : (lineAt ls k).d = true) : dirtyL (ls.take (k + 1)) = dirtyL (ls.take k) ++ [lineAt ls k] := by
  unfold dirtyL; rw [take_snoc hk, List.filter_append]; simp [h]
theorem dirtyL_no {ls : List LineOf} {k : Nat} (hk : k < ls.length) (h : (lineAt ls k).d = false) : dirtyL (ls.take (k + 1)) = dirtyL (ls.take k) := by
  unfold dirtyL; rw [take_snoc hk, List.filter_append]; simp [h]
theorem dirtyL_len (ls : List LineOf) : (dirtyL ls).length ≤ ls.length := List.length_filter_le _ _
end Go.Proofs.Ytlaclakndleonaa

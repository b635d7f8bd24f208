/- Places of lines, and the order that a cache keeps them in: plain mathematics. Conditions: as each says. -/
import Derived.Test.YtlaclakndleonaaCaMapOp
namespace Go.Proofs.Ytlaclakndleonaa
open Go.ChangeShapes Go.WideShapes Go.ChangeAt Go.RowKit
set_option linter.unusedVariables false
def keyL (l : LineOf) : Int × Int := (l.u, l.b)
def keysL (ls : List LineOf) : List (Int × Int) := ls.map keyL
def without (ks : List (Int × Int)) (u b : Int) : List (Int × Int) := ks.filter fun p => !(p.1 == u && p.2 == b)
def Apart (ls : List LineOf) : Prop := ls.Pairwise fun x y => ¬ (x.u = y.u ∧ x.b = y.b)
theorem keysL_len (ls : List LineOf) : (keysL ls).length = ls.length := List.length_map _
theorem keysL_app (a b : List LineOf) : keysL (a ++ b) = keysL a ++ keysL b := List.map_append
theorem without_len (ks : List (Int × Int)) (u b : Int) : (without ks u b).length ≤ ks.length := List.length_filter_le _ _
theorem without_keys (ls : List LineOf) (u b : Int) : without (keysL ls) u b = keysL (ls.filter fun l => !(l.is u b)) := by
  unfold without keysL
  rw [List.filter_map]
  rfl
theorem filter_at {ls : List LineOf} (h : Apart ls) (u b : Int) (hf : findL ls u b < ls.length) : ls.filter (fun l => !(l.is u b)) = outL ls (findL ls u b) :=
  filter_out (p := fun x => x.is u b) ls (h.imp fun hxy ⟨e1, e2⟩ => by
    rw [LineOf.is_iff] at e1 e2
    exact hxy ⟨e1.1.trans e2.1.symm, e1.2.trans e2.2.symm⟩) hf
theorem find_no {ls : List LineOf} {u b : Int} (hf : ¬ findL ls u b < ls.length) : ∀ y ∈ ls, y.is u b = false := fun y hy => by
  cases hy2 : y.is u b with
  | false => rfl
  | true => exact absurd (List.findIdx_lt_length_of_exists ⟨y, hy, hy2⟩) hf
theorem find_yes {ls : List LineOf} {u b : Int} {y : LineOf} (hy : y ∈ ls) (h : y.is u b = true) : findL ls u b < ls.length := List.findIdx_lt_length_of_exists ⟨y, hy, h⟩
theorem find_of_no {ls : List LineOf} {u b : Int} (h : ∀ y ∈ ls, y.is u b = false) : ¬ findL ls u b < ls.length := fun hf => by
  have e1 : (lineAt ls (findL ls u b)).is u b = true := idx_is (p := fun l => l.is u b) hf
  rw [h _ (lineAt_mem hf)] at e1
  cases e1
theorem filter_no {ls : List LineOf} {u b : Int} (hf : ¬ findL ls u b < ls.length) : ls.filter (fun l => !(l.is u b)) = ls :=
  List.filter_eq_self.2 fun y hy => by rw [find_no hf y hy]; rfl
theorem keys_out {ls : List LineOf} (h : Apart ls) (u b : Int) (hf : findL ls u b < ls.length) : without (keysL ls) u b = keysL (outL ls (findL ls u b)) := by rw [without_keys, filter_at h u b hf]
theorem keys_no {ls : List LineOf} (u b : Int) (hf : ¬ findL ls u b < ls.length) : without (keysL ls) u b = keysL ls := by rw [without_keys, filter_no hf]
theorem got_is {ls : List LineOf} {u b : Int} (hf : findL ls u b < ls.length) : gotL ls u b ∈ ls ∧ (gotL ls u b).is u b = true := by
  rw [got_in hf]
  exact ⟨lineAt_mem hf, idx_is (p := fun l => l.is u b) hf⟩
theorem apart_eq {ls : List LineOf} (h : Apart ls) {x y : LineOf} (hx : x ∈ ls) (hy : y ∈ ls) {u b : Int} (h1 : x.is u b = true) (h2 : y.is u b = true) : x = y := by
  rw [LineOf.is_iff] at h1 h2
  have key : ∀ ls : List LineOf, Apart ls → x ∈ ls → y ∈ ls → x = y := fun ls => by
    induction ls with
    | nil => intro _ hx; cases hx
    | cons z t ih =>
      intro ha hx hy
      obtain ⟨a1, a2⟩ := List.pairwise_cons.1 ha
      rcases List.mem_cons.1 hx with ex | hx1 <;> rcases List.mem_cons.1 hy with ey | hy1
      · exact ex.trans ey.symm
      · subst ex
        exact absurd ⟨h1.1.trans h2.1.symm, h1.2.trans h2.2.symm⟩ (a1 _ hy1)
      · subst ey
        exact absurd ⟨h2.1.trans h1.1.symm, h2.2.trans h1.2.symm⟩ (a1 _ hx1)
      · exact ih a2 hx1 hy1
  exact key ls h hx hy
theorem got_one {ls : List LineOf} (h : Apart ls) {x : LineOf} (hx : x ∈ ls) {u b : Int} (h1 : x.is u b = true) : gotL ls u b = x := by
  have := got_is (find_yes hx h1)
  exact apart_eq h this.1 hx this.2 h1
/-- What is got hangs on which lines there are alone. -/
theorem got_ext {ls ms : List LineOf} (h1 : Apart ls) (h2 : Apart ms) {u b : Int} (h : ∀ l, l.is u b = true → (l ∈ ls ↔ l ∈ ms)) : gotL ls u b = gotL ms u b ∧ (findL ls u b < ls.length ↔ findL ms u b < ms.length) := by
  by_cases hf : findL ls u b < ls.length
  · have g := got_is hf
    have hm := (h _ g.2).1 g.1
    exact ⟨(got_one h2 hm g.2).symm, fun _ => find_yes hm g.2, fun _ => hf⟩
  · have hf2 : ¬ findL ms u b < ms.length := fun hf2 => by
      have g := got_is hf2
      exact hf (find_yes ((h _ g.2).2 g.1) g.2)
    rw [got_none hf, got_none hf2]
    exact ⟨rfl, fun h => absurd h hf, fun h => absurd h hf2⟩
theorem outL_apart {ls : List LineOf} (h : Apart ls) (i : Nat) : Apart (outL ls i) := h.sublist (List.eraseIdx_sublist ls i)
theorem filter_apart {ls : List LineOf} (h : Apart ls) (p : LineOf → Bool) : Apart (ls.filter p) := h.sublist List.filter_sublist
theorem snoc_apart {ls : List LineOf} (h : Apart ls) {l : LineOf} (hn : ∀ y ∈ ls, y.is l.u l.b = false) : Apart (ls ++ [l]) := by
  refine List.pairwise_append.2 ⟨h, by simp, fun x hx y hy => ?_⟩
  obtain rfl : y = l := by simpa using hy
  exact LineOf.is_not.1 (hn x hx)
theorem mem_snoc_is {ls : List LineOf} {l x : LineOf} {u b : Int} (hx : x.is u b = true) (hne : ¬ (u = l.u ∧ b = l.b)) : x ∈ ls ++ [l] ↔ x ∈ ls := by
  refine ⟨fun h => ?_, fun h => List.mem_append.2 (.inl h)⟩
  rcases List.mem_append.1 h with h | h
  · exact h
  · obtain rfl : x = l := by simpa using h
    rw [LineOf.is_iff] at hx
    exact absurd ⟨hx.1.symm, hx.2.symm⟩ hne
/-- A new line at the end. -/
theorem got_snoc {ls : List LineOf} {l : LineOf} (h : Apart ls) (hn : ∀ y ∈ ls, y.is l.u l.b = false) (u b : Int) : gotL (ls ++ [l]) u b = (if u = l.u ∧ b = l.b then l else gotL ls u b) ∧ decide (findL (ls ++ [l]) u b < (ls ++ [l]).length) = (if u = l.u ∧ b = l.b then true else decide (findL ls u b < ls.length)) := by
  have ha := snoc_apart h hn
  by_cases he : u = l.u ∧ b = l.b
  · obtain ⟨rfl, rfl⟩ := he
    have hx : l.is l.u l.b = true := LineOf.is_iff.2 ⟨rfl, rfl⟩
    rw [if_pos ⟨rfl, rfl⟩, if_pos ⟨rfl, rfl⟩]
    exact ⟨got_one ha (by simp) hx, decide_eq_true (find_yes (y := l) (by simp) hx)⟩
  · rw [if_neg he, if_neg he]
    have := got_ext ha h (u := u) (b := b) (fun x hx => mem_snoc_is hx he)
    exact ⟨this.1, by rw [decide_eq_decide]; exact this.2⟩
/-- A line out of the way. -/
theorem got_out {ls : List LineOf} (h : Apart ls) {u0 b0 : Int} (hf : findL ls u0 b0 < ls.length) (u b : Int) : gotL (outL ls (findL ls u0 b0)) u b = (if u = u0 ∧ b = b0 then noLine else gotL ls u b) ∧ decide (findL (outL ls (findL ls u0 b0)) u b < (outL ls (findL ls u0 b0)).length) = (if u = u0 ∧ b = b0 then false else decide (findL ls u b < ls.length)) := by
  rw [← filter_at h u0 b0 hf]
  have ha := filter_apart h (fun l => !(l.is u0 b0))
  by_cases he : u = u0 ∧ b = b0
  · obtain ⟨rfl, rfl⟩ := he
    rw [if_pos ⟨rfl, rfl⟩, if_pos ⟨rfl, rfl⟩]
    have hno : ¬ findL (ls.filter fun l => !(l.is u b)) u b < (ls.filter fun l => !(l.is u b)).length := find_of_no fun y hy => by simpa using (List.mem_filter.1 hy).2
    exact ⟨got_none hno, decide_eq_false hno⟩
  · rw [if_neg he, if_neg he]
    have := got_ext ha h (u := u) (b := b) (fun x hx => by
      rw [List.mem_filter]
      refine ⟨fun h => h.1, fun h => ⟨h, ?_⟩⟩
      have hn : x.is u0 b0 = false := LineOf.is_not.2 fun e => by
        rw [LineOf.is_iff] at hx
        exact he ⟨hx.1.symm.trans e.1, hx.2.symm.trans e.2⟩
      rw [hn]; rfl)
    exact ⟨this.1, by rw [decide_eq_decide]; exact this.2⟩
/-- A line that replaces the block's elder one, at the end. -/
theorem got_again {ls : List LineOf} (h : Apart ls) {l : LineOf} (hf : findL ls l.u l.b < ls.length) (u b : Int) : gotL (outL ls (findL ls l.u l.b) ++ [l]) u b = (if u = l.u ∧ b = l.b then l else gotL ls u b) ∧ decide (findL (outL ls (findL ls l.u l.b) ++ [l]) u b < (outL ls (findL ls l.u l.b) ++ [l]).length) = (if u = l.u ∧ b = l.b then true else decide (findL ls u b < ls.length)) ∧ (outL ls (findL ls l.u l.b) ++ [l]).length = ls.length ∧ Apart (outL ls (findL ls l.u l.b) ++ [l]) := by
  have hn : ∀ y ∈ outL ls (findL ls l.u l.b), y.is l.u l.b = false := fun y hy => by
    rw [← filter_at h l.u l.b hf] at hy
    simpa using (List.mem_filter.1 hy).2
  have ho := outL_apart h (findL ls l.u l.b)
  have g1 := got_snoc ho hn u b
  have g2 := got_out h hf u b
  refine ⟨?_, ?_, ?_, snoc_apart ho hn⟩
  · rw [g1.1]; split
    · rfl
    · rename_i he; rw [g2.1, if_neg he]
  · rw [g1.2]; split
    · rfl
    · rename_i he; rw [g2.2, if_neg he]
  · rw [List.length_append, outL_len hf]; simp; omega
end Go.Proofs.Ytlaclakndleonaa

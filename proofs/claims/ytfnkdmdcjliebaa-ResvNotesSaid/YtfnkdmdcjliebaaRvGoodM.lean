/- Reservations in form stay so, whatever is done; who is refused changes nothing: plain mathematics. Conditions: as each says. -/
import Derived.Test.YtfnkdmdcjliebaaRvMath
namespace Go.Proofs.Ytfnkdmdcjliebaa
open Go Go.RowKit
set_option linter.unusedVariables false
theorem settle_good {r : ResvOf} (few : r.regs.length ≤ 4) (gen : 0 ≤ r.g) (ri : risesR r.regs (-1) = true) (f : (r.h = -1 ∧ r.t = 0) ∨ (r.h ≠ -1 ∧ 1 ≤ r.t ∧ r.t ≤ 6)) : GoodR (settleR r) ∧ (settleR r).regs = r.regs ∧ (settleR r).g = r.g := by
  unfold settleR
  rcases f with f | f
  · have e : (r.h == -1) = true := by simpa using f.1
    simp only [e, Bool.not_true, Bool.false_and, Bool.false_eq_true, if_false]
    exact ⟨⟨few, gen, ri, .inl f⟩, by trivial, by trivial⟩
  · have e : (r.h == -1) = false := by simpa using f.1
    have hp := key_pos r.h ri
    by_cases hk : keyR r.regs r.h = 0
    · have e2 : (keyR r.regs r.h == 0) = true := by simpa using hk
      simp only [e, e2, Bool.not_false, Bool.true_and, if_true]
      split
      · rename_i h5
        rw [Bool.and_eq_true, decide_eq_true_eq, decide_eq_true_eq] at h5
        refine ⟨⟨few, gen, ri, .inr ?_⟩, rfl, rfl⟩
        cases hr : r.regs with
        | nil => rw [hr] at h5; simp at h5
        | cons p ps =>
          rw [hr] at ri
          rw [rises_cons] at ri
          refine ⟨by show p.1 ≠ -1; omega, ?_, by show 1 ≤ r.t; omega, by show r.t ≤ 6; omega⟩
          show 0 < keyR (p :: ps) p.1
          rw [key_cons, if_pos (by simp)]; omega
      · exact ⟨⟨few, gen, ri, .inl ⟨rfl, rfl⟩⟩, rfl, rfl⟩
    · have e2 : (keyR r.regs r.h == 0) = false := by simpa using hk
      simp only [e, e2, Bool.and_false, Bool.false_eq_true, if_false]
      exact ⟨⟨few, gen, ri, .inr ⟨f.1, by omega, f.2⟩⟩, by trivial, by trivial⟩
theorem inc_is {g : Int} (h0 : 0 ≤ g) (h : g < 9223372036854775807) : incR g = g + 1 := by
  unfold incR
  rw [IntWalk.i64_in _ (by omega)]
/-- What a well-formed operation that is not refused says. -/
theorem well_says {o : ROp} (h : (!(wellR o)) = false) : 1 ≤ o.op ∧ o.op ≤ 6 ∧ 0 ≤ o.who ∧ 0 ≤ o.key ∧ 0 ≤ o.new ∧ (needsR o = true → 1 ≤ o.ty ∧ o.ty ≤ 6) := by
  have h1 : wellR o = true := by simpa using h
  unfold wellR at h1
  simp only [Bool.and_eq_true, decide_eq_true_eq, Bool.or_eq_true, Bool.not_eq_true'] at h1
  obtain ⟨⟨⟨⟨⟨a, b⟩, c⟩, d⟩, e⟩, f⟩ := h1
  refine ⟨a, b, c, d, e, fun hn => ?_⟩
  rcases f with f | f
  · rw [hn] at f; cases f
  · exact f
theorem own_says {r : ResvOf} {o : ROp} (h : refusedR r o = false) (h2 : 2 ≤ o.op) (h5 : o.op ≤ 5) : keyR r.regs o.who ≠ 0 ∧ keyR r.regs o.who = o.key := by
  unfold refusedR at h
  rw [Bool.or_eq_false_iff, decide_eq_true h2, decide_eq_true h5] at h
  have h3 := h.2
  simp at h3
  exact h3
theorem gone_not {r : ResvOf} {o : ROp} : ((goneR r o).any (· == o.who)) = false := by
  unfold goneR
  rw [List.any_eq_false]
  intro x hx
  obtain ⟨p, hp, rfl⟩ := List.mem_map.1 hx
  have := (List.mem_filter.1 hp).2
  rw [Bool.and_eq_true] at this
  simpa using this.1
/-- What was done, and not refused. -/
theorem do_good {r : ResvOf} {o : ROp} (g : GoodR r) (hg : r.g < 9223372036854775807) (h0 : (doR r o).2 = 0) : GoodR (doR r o).1 ∧ r.g ≤ (doR r o).1.g ∧ (doR r o).1.g ≤ r.g + 1 := by
  have hi := inc_is g.gen hg
  have key : ∀ v, doR r o = v → v.2 = 0 → GoodR v.1 ∧ r.g ≤ v.1.g ∧ v.1.g ≤ r.g + 1 := by
    intro v hv h0
    unfold doR at hv
    split at hv
    · subst hv; exact absurd h0 (show ¬ (2 : Int) = 0 by decide)
    rename_i b1
    have b1' : (!(goodR r) || !(wellR o)) = false := by simpa using b1
    rw [Bool.or_eq_false_iff] at b1'
    obtain ⟨w1, w2, w3, w4, w5, w6⟩ := well_says b1'.2
    split at hv
    · subst hv; exact absurd h0 (show ¬ (9 : Int) = 0 by decide)
    rename_i b2
    have b2' : refusedR r o = false := by simpa using b2
    split at hv
    · -- registers
      split at hv
      · rename_i hn
        split at hv
        · rename_i h4
          subst hv
          refine ⟨⟨h4, by show 0 ≤ incR r.g; have := g.gen; omega, with_rises hn r.regs (-1) g.rises (by omega), ?_⟩, by show r.g ≤ incR r.g; omega, by show incR r.g ≤ _; omega⟩
          rcases g.form with f | f
          · exact .inl f
          · refine .inr ⟨f.1, ?_, f.2.2⟩
            show 0 < keyR (withL r.regs o.who o.new false) r.h
            rw [with_key o.who o.new r.h r.regs (-1) g.rises]
            split
            · exact hn
            · exact f.2.1
        · subst hv; exact absurd h0 (show ¬ (7 : Int) = 0 by decide)
      · subst hv
        have hs := settle_good (r := { r with regs := r.regs.filter fun p => !([o.who].any (· == p.1)) }) (Nat.le_trans (List.length_filter_le _ _) g.few) g.gen (rises_filter _ _ _ g.rises) (by
          rcases g.form with f | f
          · exact .inl f
          · exact .inr ⟨f.1, f.2.2⟩)
        obtain ⟨s1, s2, s3⟩ := hs
        exact ⟨⟨s1.few, by show 0 ≤ incR r.g; have := g.gen; omega, s1.rises, s1.form⟩, by show r.g ≤ incR r.g; omega, by show incR r.g ≤ _; omega⟩
    split at hv
    · -- reserves
      rename_i b3 h2
      have h2' : o.op = 2 := by simpa using h2
      have own := own_says b2' (by omega) (by omega)
      have hp := key_pos o.who g.rises
      split at hv
      · subst hv
        have ht := w6 (by unfold needsR; rw [h2]; rfl)
        exact ⟨⟨g.few, g.gen, g.rises, .inr ⟨by show o.who ≠ -1; omega, by show 0 < keyR r.regs o.who; omega, ht⟩⟩, Int.le_refl _, by show r.g ≤ r.g + 1; omega⟩
      · split at hv
        · subst hv; exact ⟨g, Int.le_refl _, by show r.g ≤ r.g + 1; omega⟩
        · subst hv; exact absurd h0 (show ¬ (9 : Int) = 0 by decide)
    split at hv
    · -- releases
      split at hv
      · subst hv; exact ⟨g, Int.le_refl _, by show r.g ≤ r.g + 1; omega⟩
      · split at hv
        · subst hv; exact absurd h0 (show ¬ (2 : Int) = 0 by decide)
        · subst hv; exact ⟨⟨g.few, g.gen, g.rises, .inl ⟨rfl, rfl⟩⟩, Int.le_refl _, by show r.g ≤ r.g + 1; omega⟩
    split at hv
    · -- clears
      subst hv
      exact ⟨⟨by show 0 ≤ 4; omega, by show 0 ≤ incR r.g; have := g.gen; omega, rfl, .inl ⟨rfl, rfl⟩⟩, by show r.g ≤ incR r.g; omega, by show incR r.g ≤ _; omega⟩
    split at hv
    · subst hv; exact absurd h0 (show ¬ (9 : Int) = 0 by decide)
    -- preempts
    rename_i b4 b5 b6 b7 b8
    have n1 : o.op ≠ 1 ∧ o.op ≠ 6 := by simpa using b4
    have n2 : o.op ≠ 2 := by simpa using b5
    have n3 : o.op ≠ 3 := by simpa using b6
    have n4 : o.op ≠ 4 := by simpa using b7
    have h5 : o.op = 5 := by omega
    have own := own_says b2' (by omega) (by omega)
    have hp := key_pos o.who g.rises
    have ht := w6 (by unfold needsR; rw [h5]; rfl)
    subst hv
    have hs := settle_good (r := { (if overR r o = true then { r with h := o.who, t := o.ty } else r) with regs := r.regs.filter fun p => !((goneR r o).any (· == p.1)) }) (Nat.le_trans (List.length_filter_le _ _) g.few) (by show 0 ≤ (if overR r o = true then _ else r).g; split <;> exact g.gen) (rises_filter _ _ _ g.rises) (by
      show ((if overR r o = true then { r with h := o.who, t := o.ty } else r).h = -1 ∧ (if overR r o = true then { r with h := o.who, t := o.ty } else r).t = 0) ∨ _
      split
      · exact .inr ⟨by show o.who ≠ -1; omega, ht⟩
      · rcases g.form with f | f
        · exact .inl f
        · exact .inr ⟨f.1, f.2.2⟩)
    obtain ⟨s1, s2, s3⟩ := hs
    have e : withoutR (if overR r o = true then { r with h := o.who, t := o.ty } else r) (goneR r o) = settleR { (if overR r o = true then { r with h := o.who, t := o.ty } else r) with regs := r.regs.filter fun p => !((goneR r o).any (· == p.1)) } := by
      unfold withoutR
      split <;> rfl
    show GoodR { withoutR (if overR r o = true then { r with h := o.who, t := o.ty } else r) (goneR r o) with g := incR r.g } ∧ r.g ≤ incR r.g ∧ incR r.g ≤ r.g + 1
    rw [e]
    exact ⟨⟨s1.few, by show 0 ≤ incR r.g; have := g.gen; omega, s1.rises, s1.form⟩, by omega, by omega⟩
  exact key _ rfl h0
theorem do_err (r : ResvOf) (o : ROp) : ((doR r o).2 = 0 ∨ (doR r o).2 = 2 ∨ (doR r o).2 = 7 ∨ (doR r o).2 = 9) ∧ ((doR r o).2 ≠ 0 → (doR r o).1 = nobodyR) := by
  unfold doR
  repeat' split
  all_goals first
    | exact ⟨.inl rfl, fun h => absurd rfl h⟩
    | exact ⟨.inr (.inl rfl), fun _ => rfl⟩
    | exact ⟨.inr (.inr (.inl rfl)), fun _ => rfl⟩
    | exact ⟨.inr (.inr (.inr rfl)), fun _ => rfl⟩
end Go.Proofs.Ytfnkdmdcjliebaa

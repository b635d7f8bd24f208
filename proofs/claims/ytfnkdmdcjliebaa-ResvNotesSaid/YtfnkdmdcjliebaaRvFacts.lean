/- Bounds of reservations; what a holder may; what clearing and ending leave: plain mathematics. Conditions: as each says. -/
import Derived.Test.YtfnkdmdcjliebaaRvGoodM
namespace Go.Proofs.Ytfnkdmdcjliebaa
open Go Go.RowKit
set_option linter.unusedVariables false
theorem okI_inc (g : Int) : okI (incR g) := by
  unfold incR okI
  rw [IntKind.wrap_i64]
  omega
theorem okI_neg : okI (-1) := by unfold okI; decide
theorem okI_zero : okI 0 := by unfold okI; decide
theorem settle_ok {r : ResvOf} (h : r.ok) : (settleR r).ok := by
  unfold settleR
  obtain ⟨h1, h2, h3, h4⟩ := h
  split
  · split
    · rename_i hc
      rw [Bool.and_eq_true, decide_eq_true_eq, decide_eq_true_eq] at hc
      refine ⟨h1, ?_, h3, h4⟩
      show okI (r.regs.getD 0 (0, 0)).1
      have : r.regs[0]? = some (r.regs.getD 0 (0, 0)) := by rw [List.getD_eq_getElem?_getD, List.getElem?_eq_getElem hc.2]; rfl
      exact (h1 _ (List.mem_of_getElem? this)).1
    · exact ⟨h1, okI_neg, okI_zero, h4⟩
  · exact ⟨h1, h2, h3, h4⟩
theorem with_mem (who key : Int) : ∀ (ks : List (Int × Int)) (d : Bool) (p : Int × Int), p ∈ withL ks who key d → p = (who, key) ∨ p ∈ ks
  | [], d, p, h => by
    cases d with
    | true => cases h
    | false => exact .inl (by simpa [withL] using h)
  | x :: ps, d, p, h => by
    have ih := with_mem who key ps (d || decide (who ≤ x.1)) p
    have h' : p ∈ (if !d && decide (who ≤ x.1) then [(who, key)] else []) ++ (if x.1 == who then [] else [x]) ++ withL ps who key (d || decide (who ≤ x.1)) := h
    rcases List.mem_append.1 h' with h' | h'
    · rcases List.mem_append.1 h' with h' | h'
      · split at h'
        · exact .inl (by simpa using h')
        · cases h'
      · split at h'
        · cases h'
        · exact .inr (by simp at h'; rw [h']; exact List.mem_cons_self)
    · rcases ih h' with e | e
      · exact .inl e
      · exact .inr (List.mem_cons_of_mem _ e)
theorem nobody_ok : nobodyR.ok := ⟨(fun p hp => nomatch hp), okI_neg, okI_zero, okI_zero⟩
theorem without_ok {r : ResvOf} (h : r.ok) (gone : List Int) : (withoutR r gone).ok := settle_ok ⟨fun p hp => h.1 p (List.mem_filter.1 hp).1, h.2.1, h.2.2.1, h.2.2.2⟩
theorem do_ok {r : ResvOf} {o : ROp} (h : r.ok) (ho : o.ok) : (doR r o).1.ok := by
  obtain ⟨h1, h2, h3, h4⟩ := h
  obtain ⟨o1, o2, o3, o4, o5⟩ := ho
  have key : ∀ v, doR r o = v → v.1.ok := by
    intro v hv
    unfold doR at hv
    split at hv
    · subst hv; exact nobody_ok
    split at hv
    · subst hv; exact nobody_ok
    split at hv
    · split at hv
      · split at hv
        · subst hv
          refine ⟨fun p hp => ?_, h2, h3, okI_inc _⟩
          rcases with_mem _ _ _ _ p hp with rfl | e
          · exact ⟨o2, o4⟩
          · exact h1 p e
        · subst hv; exact nobody_ok
      · subst hv
        have := without_ok ⟨h1, h2, h3, h4⟩ [o.who]
        exact ⟨this.1, this.2.1, this.2.2.1, okI_inc _⟩
    split at hv
    · split at hv
      · subst hv; exact ⟨h1, o2, o5, h4⟩
      · split at hv
        · subst hv; exact ⟨h1, h2, h3, h4⟩
        · subst hv; exact nobody_ok
    split at hv
    · split at hv
      · subst hv; exact ⟨h1, h2, h3, h4⟩
      · split at hv
        · subst hv; exact nobody_ok
        · subst hv; exact ⟨h1, okI_neg, okI_zero, h4⟩
    split at hv
    · subst hv; exact ⟨(fun p hp => nomatch hp), okI_neg, okI_zero, okI_inc _⟩
    split at hv
    · subst hv; exact nobody_ok
    subst hv
    have := without_ok (r := if overR r o then { r with h := o.who, t := o.ty } else r) (by
      split
      · exact ⟨h1, o2, o5, h4⟩
      · exact ⟨h1, h2, h3, h4⟩) (goneR r o)
    exact ⟨this.1, this.2.1, this.2.2.1, okI_inc _⟩
  exact key _ rfl
/-! ### What is allowed -/
theorem allowed_holder {r : ResvOf} {x : Int} (h : holdsR r x = true) : allowedR r x 1 = true ∧ allowedR r x 2 = true := by
  unfold allowedR
  rw [h, Bool.or_true]
  exact ⟨rfl, rfl⟩
theorem allowed_nobody {r : ResvOf} (h : r.h = -1) (who : Int) : allowedR r who 1 = true ∧ allowedR r who 2 = true := by
  unfold allowedR
  rw [h]
  exact ⟨rfl, rfl⟩
theorem allowed_reads {r : ResvOf} (who : Int) (h : allowedR r who 2 = true) : allowedR r who 1 = true := by
  have e1 : ∀ acc : Int, (acc = 1 ∨ acc = 2) → (!(acc == 1) && !(acc == 2)) = false := fun acc h => by rcases h with rfl | rfl <;> rfl
  unfold allowedR at h ⊢
  rw [e1 2 (.inr rfl)] at h
  rw [e1 1 (.inl rfl)]
  simp only [Bool.false_eq_true, if_false] at h ⊢
  split
  · rfl
  · rename_i hn
    rw [if_neg hn] at h
    have h2 : decide (0 < keyR r.regs who) && (r.t == 3 || r.t == 4) := h
    show (r.t == 1 || r.t == 3 || r.t == 5 || (r.t == 4 && decide (0 < keyR r.regs who))) = true
    rw [Bool.and_eq_true, Bool.or_eq_true] at h2
    rcases h2.2 with e | e
    · rw [e]; simp
    · rw [e, h2.1]; simp
theorem allowed_other (r : ResvOf) (who : Int) : allowedR r who 3 = false := rfl
/-! ### What clearing and ending leave -/
theorem good_run {r : ResvOf} (g : GoodR r) : (!(goodR r)) = false := by rw [good_iff.2 g]; rfl
theorem clear_none {r : ResvOf} (g : GoodR r) {who : Int} (h0 : 0 ≤ who) (hk : keyR r.regs who = 0) : (doR r ⟨4, who, 1, 0, 0, false⟩).2 = 9 := by
  have w : wellR ⟨4, who, 1, 0, 0, false⟩ = true := by
    unfold wellR needsR
    simp [h0]
  have e : refusedR r ⟨4, who, 1, 0, 0, false⟩ = true := by
    unfold refusedR
    simp [hk]
  unfold doR
  rw [good_run g, w, e]
  rfl
theorem clear_all {r : ResvOf} (g : GoodR r) {who : Int} (hk : keyR r.regs who ≠ 0) : doR r ⟨4, who, keyR r.regs who, 0, 0, false⟩ = ({ r with regs := [], h := -1, t := 0, g := incR r.g }, 0) := by
  have hp := key_pos who g.rises
  have h0 : 0 ≤ who := by have := (hp.2 hk).1; omega
  have w : wellR ⟨4, who, keyR r.regs who, 0, 0, false⟩ = true := by
    unfold wellR needsR
    simp [h0, hp.1]
  have e : refusedR r ⟨4, who, keyR r.regs who, 0, 0, false⟩ = false := by
    unfold refusedR
    simp [hk]
  unfold doR
  rw [good_run g, w, e]
  rfl
theorem ends_is {r : ResvOf} (g : GoodR r) {who : Int} (hk : keyR r.regs who ≠ 0) : doR r ⟨1, who, keyR r.regs who, 0, 0, r.s⟩ = ({ withoutR r [who] with s := r.s, g := incR r.g }, 0) := by
  have hp := key_pos who g.rises
  have h0 : 0 ≤ who := by have := (hp.2 hk).1; omega
  have w : wellR ⟨1, who, keyR r.regs who, 0, 0, r.s⟩ = true := by
    unfold wellR needsR
    simp [h0, hp.1]
  have e : refusedR r ⟨1, who, keyR r.regs who, 0, 0, r.s⟩ = false := by
    unfold refusedR
    simp
  unfold doR
  rw [good_run g, w, e]
  rfl
theorem one_left {ks : List (Int × Int)} {who : Int} {k : Int} (h : (who, k) ∈ ks) (hl : ks.length ≤ 1) : (ks.filter fun p => !([who].any (· == p.1))) = [] := by
  match ks, hl with
  | [x], _ =>
    obtain rfl : (who, k) = x := by simpa using h
    simp
theorem ends_leaves {r : ResvOf} (g : GoodR r) {who : Int} (hk : keyR r.regs who ≠ 0) : keyR (withoutR r [who]).regs who = 0 ∧ (withoutR r [who]).h ≠ who ∧ (r.h ≠ who ∨ (5 ≤ r.t ∧ 1 < r.regs.length) ∨ (withoutR r [who]).h = -1) := by
  have hp := key_pos who g.rises
  have hw := hp.2 hk
  have kf : ∀ x, keyR (r.regs.filter fun p => !([who].any (· == p.1))) x = if x = who then 0 else keyR r.regs x := fun x => by
    by_cases hx : x = who
    · subst hx
      rw [if_pos rfl, key_filter _ x false r.regs (fun p hp e => by rw [e]; simp)]; rfl
    · rw [if_neg hx, key_filter _ x true r.regs (fun p hp e => by rw [e]; simp; omega)]; rfl
  have hs : (withoutR r [who]).regs = r.regs.filter fun p => !([who].any (· == p.1)) := by
    unfold withoutR settleR
    split
    · split <;> rfl
    · rfl
  refine ⟨by rw [hs, kf who, if_pos rfl], ?_, ?_⟩
  · unfold withoutR settleR
    split
    · rename_i hc
      split
      · rename_i h5
        show ((r.regs.filter fun p => !([who].any (· == p.1))).getD 0 (0, 0)).1 ≠ who
        rw [Bool.and_eq_true, decide_eq_true_eq, decide_eq_true_eq] at h5
        have h6 : 0 < (r.regs.filter fun p => !([who].any (· == p.1))).length := h5.2
        have : (r.regs.filter fun p => !([who].any (· == p.1)))[0]? = some ((r.regs.filter fun p => !([who].any (· == p.1))).getD 0 (0, 0)) := by rw [List.getD_eq_getElem?_getD, List.getElem?_eq_getElem h6]; rfl
        have hm := (List.mem_filter.1 (List.mem_of_getElem? this)).2
        intro e
        rw [e] at hm
        simp at hm
      · show (-1 : Int) ≠ who; omega
    · rename_i hc
      show r.h ≠ who
      intro e
      refine hc ?_
      show (!(r.h == -1) && keyR (r.regs.filter fun p => !([who].any (· == p.1))) r.h == 0) = true
      rw [e, kf who, if_pos rfl]
      have : (who == -1) = false := by simp; omega
      rw [this]; rfl
  · by_cases e : r.h = who
    · by_cases h5 : 5 ≤ r.t ∧ 1 < r.regs.length
      · exact .inr (.inl h5)
      · refine .inr (.inr ?_)
        unfold withoutR settleR
        have hc : (!(r.h == -1) && keyR (r.regs.filter fun p => !([who].any (· == p.1))) r.h == 0) = true := by
          rw [e, kf who, if_pos rfl]
          have : (who == -1) = false := by simp; omega
          rw [this]; rfl
        rw [if_pos hc]
        rw [if_neg]
        show ¬ ((decide (5 ≤ r.t) && decide (0 < (r.regs.filter fun p => !([who].any (· == p.1))).length)) = true)
        rw [Bool.and_eq_true, decide_eq_true_eq, decide_eq_true_eq]
        intro ⟨h1, h2⟩
        by_cases hl : r.regs.length ≤ 1
        · rw [one_left hw.2 hl] at h2
          exact absurd h2 (Nat.lt_irrefl 0)
        · exact h5 ⟨h1, by omega⟩
    · exact .inl e
end Go.Proofs.Ytfnkdmdcjliebaa

/- Reservations in form stay so; what holders may; what an ending leaves: plain mathematics. Conditions: as each says. -/
import Derived.Test.YtfnkdmdcjliebaaRvSpec
namespace Go.Proofs.Ytfnkdmdcjliebaa
open Go Go.RowKit
set_option linter.unusedVariables false
theorem rises_cons {p : Int × Int} {ps : List (Int × Int)} {w : Int} : risesR (p :: ps) w = true ↔ w < p.1 ∧ 1 ≤ p.2 ∧ risesR ps p.1 = true := by
  show (decide (w < p.1) && decide (1 ≤ p.2) && risesR ps p.1) = true ↔ _
  rw [Bool.and_eq_true, Bool.and_eq_true, decide_eq_true_eq, decide_eq_true_eq, and_assoc]
theorem rises_mono {ks : List (Int × Int)} {w w' : Int} (h : risesR ks w' = true) (hw : w ≤ w') : risesR ks w = true := by
  cases ks with
  | nil => rfl
  | cons p ps =>
    rw [rises_cons] at h ⊢
    exact ⟨by omega, h.2⟩
theorem rises_filter (f : Int × Int → Bool) : ∀ (ks : List (Int × Int)) (w : Int), risesR ks w = true → risesR (ks.filter f) w = true
  | [], w, h => h
  | p :: ps, w, h => by
    rw [rises_cons] at h
    have ih := rises_filter f ps p.1 h.2.2
    rw [List.filter_cons]
    split
    · rw [rises_cons]; exact ⟨h.1, h.2.1, ih⟩
    · exact rises_mono ih (by omega)
theorem rises_mem : ∀ {ks : List (Int × Int)} {w : Int}, risesR ks w = true → ∀ p ∈ ks, w < p.1 ∧ 1 ≤ p.2
  | [], w, h, p, hp => nomatch hp
  | x :: ps, w, h, p, hp => by
    rw [rises_cons] at h
    rcases List.mem_cons.1 hp with rfl | hp
    · exact ⟨h.1, h.2.1⟩
    · have := rises_mem h.2.2 p hp
      exact ⟨by omega, this.2⟩
theorem key_cons (p : Int × Int) (ps : List (Int × Int)) (who : Int) : keyR (p :: ps) who = if p.1 == who then p.2 else keyR ps who := rfl
theorem key_mem : ∀ {ks : List (Int × Int)} {w : Int}, risesR ks w = true → ∀ p ∈ ks, keyR ks p.1 = p.2
  | [], w, h, p, hp => nomatch hp
  | x :: ps, w, h, p, hp => by
    rw [rises_cons] at h
    rw [key_cons]
    rcases List.mem_cons.1 hp with rfl | hp
    · rw [if_pos (by simp)]
    · have := rises_mem h.2.2 p hp
      rw [if_neg (by simp; omega)]
      exact key_mem h.2.2 p hp
theorem key_pos : ∀ {ks : List (Int × Int)} {w : Int} (who : Int), risesR ks w = true → 0 ≤ keyR ks who ∧ (keyR ks who ≠ 0 → w < who ∧ (who, keyR ks who) ∈ ks)
  | [], w, who, h => ⟨Int.le_refl _, fun e => absurd rfl e⟩
  | x :: ps, w, who, h => by
    rw [rises_cons] at h
    rw [key_cons]
    by_cases hx : x.1 == who
    · rw [if_pos hx]
      obtain rfl : x.1 = who := by simpa using hx
      exact ⟨by omega, fun _ => ⟨h.1, List.mem_cons_self⟩⟩
    · rw [if_neg hx]
      have ih := key_pos who h.2.2
      exact ⟨ih.1, fun e => ⟨by have := (ih.2 e).1; omega, List.mem_cons_of_mem _ (ih.2 e).2⟩⟩
theorem key_filter (f : Int × Int → Bool) (who : Int) (b : Bool) : ∀ (ks : List (Int × Int)), (∀ p ∈ ks, p.1 = who → f p = b) → keyR (ks.filter f) who = if b then keyR ks who else 0
  | [], _ => by cases b <;> rfl
  | p :: ps, hf => by
    have ih := key_filter f who b ps (fun x hx => hf x (List.mem_cons_of_mem _ hx))
    rw [List.filter_cons, key_cons]
    by_cases hp : p.1 == who
    · have e := hf p List.mem_cons_self (by simpa using hp)
      rw [if_pos hp, e]
      cases b with
      | true => rw [if_pos rfl, key_cons, if_pos hp, if_pos rfl]
      | false => rw [if_neg (by decide), ih]; rfl
    · rw [if_neg hp]
      split
      · rw [key_cons, if_neg hp, ih]
      · exact ih
/-! ### A registration laid among the others -/
theorem with_true (who key : Int) : ∀ ks : List (Int × Int), withL ks who key true = ks.filter fun p => !(p.1 == who)
  | [] => rfl
  | p :: ps => by
    have ih := with_true who key ps
    show (if !true && decide (who ≤ p.1) then [(who, key)] else []) ++ (if p.1 == who then [] else [p]) ++ withL ps who key (true || decide (who ≤ p.1)) = _
    rw [Bool.true_or, ih, List.filter_cons, if_neg (show ¬ ((!true && decide (who ≤ p.1)) = true) by simp)]
    cases hp : (p.1 == who) with
    | true => rfl
    | false => rfl
theorem with_cons (p : Int × Int) (ps : List (Int × Int)) (who key : Int) : withL (p :: ps) who key false = (if decide (who ≤ p.1) then [(who, key)] else []) ++ (if p.1 == who then [] else [p]) ++ withL ps who key (decide (who ≤ p.1)) := by
  show (if !false && decide (who ≤ p.1) then [(who, key)] else []) ++ (if p.1 == who then [] else [p]) ++ withL ps who key (false || decide (who ≤ p.1)) = _
  rw [Bool.false_or, Bool.not_false, Bool.true_and]
theorem with_rises {who key : Int} (hk : 1 ≤ key) : ∀ (ks : List (Int × Int)) (w : Int), risesR ks w = true → w < who → risesR (withL ks who key false) w = true
  | [], w, h, hw => by
    show risesR [(who, key)] w = true
    rw [rises_cons]; exact ⟨hw, hk, rfl⟩
  | p :: ps, w, h, hw => by
    rw [rises_cons] at h
    rw [with_cons]
    by_cases h1 : who ≤ p.1
    · rw [decide_eq_true h1, if_pos rfl, with_true]
      have hps := rises_filter (fun q => !(q.1 == who)) ps p.1 h.2.2
      by_cases h2 : p.1 == who
      · rw [if_pos h2]
        show risesR ((who, key) :: (ps.filter _)) w = true
        rw [rises_cons]
        exact ⟨hw, hk, rises_mono hps h1⟩
      · rw [if_neg h2]
        show risesR ((who, key) :: p :: (ps.filter _)) w = true
        rw [rises_cons, rises_cons]
        have : p.1 ≠ who := by simpa using h2
        exact ⟨hw, hk, by show who < p.1; omega, h.2.1, hps⟩
    · rw [decide_eq_false h1, if_neg (by decide)]
      have h2 : (p.1 == who) = false := by simp; omega
      rw [h2, if_neg (by decide)]
      show risesR (p :: withL ps who key false) w = true
      rw [rises_cons]
      exact ⟨h.1, h.2.1, with_rises hk ps p.1 h.2.2 (by omega)⟩
theorem key_append : ∀ (a b : List (Int × Int)) (x : Int), (∀ p ∈ a, p.1 ≠ x) → keyR (a ++ b) x = keyR b x
  | [], b, x, h => rfl
  | p :: a, b, x, h => by
    show keyR (p :: (a ++ b)) x = _
    rw [key_cons, if_neg (by simpa using h p List.mem_cons_self)]
    exact key_append a b x fun q hq => h q (List.mem_cons_of_mem _ hq)
theorem with_key (who key x : Int) : ∀ (ks : List (Int × Int)) (w : Int), risesR ks w = true → keyR (withL ks who key false) x = if x == who then key else keyR ks x
  | [], w, h => by
    show keyR [(who, key)] x = _
    rw [key_cons]
    by_cases hx : x = who
    · subst hx; simp only [beq_self_eq_true, if_true]
    · have e1 : (who == x) = false := by simp; omega
      have e2 : (x == who) = false := by simpa using hx
      simp only [e1, e2, Bool.false_eq_true, if_false]
  | p :: ps, w, h => by
    rw [rises_cons] at h
    have ih := with_key who key x ps p.1 h.2.2
    rw [with_cons]
    by_cases hx : x = who
    · subst hx
      simp only [beq_self_eq_true, if_true] at ih ⊢
      by_cases h1 : x ≤ p.1
      · simp only [decide_eq_true h1, if_true]
        show keyR ((x, key) :: _) x = _
        rw [key_cons]
        simp only [beq_self_eq_true, if_true]
      · have h2 : (p.1 == x) = false := by simp; omega
        simp only [decide_eq_false h1, h2, Bool.false_eq_true, if_false]
        show keyR (p :: withL ps x key false) x = _
        rw [key_cons, h2]
        simp only [Bool.false_eq_true, if_false]
        exact ih
    · have hx2 : (x == who) = false := by simpa using hx
      simp only [hx2, Bool.false_eq_true, if_false] at ih ⊢
      have hd : keyR (withL ps who key (decide (who ≤ p.1))) x = keyR ps x := by
        by_cases h1 : who ≤ p.1
        · rw [decide_eq_true h1, with_true, key_filter _ x true ps fun q hq hqx => by rw [hqx, hx2]; rfl]; rfl
        · rw [decide_eq_false h1]; exact ih
      rw [List.append_assoc, key_append _ _ x (by
        intro q hq
        split at hq
        · obtain rfl : q = (who, key) := by simpa using hq
          exact fun e => hx e.symm
        · cases hq)]
      rw [key_cons]
      by_cases h2 : p.1 == who
      · rw [if_pos h2]
        have : (p.1 == x) = false := by
          have : p.1 = who := by simpa using h2
          simp; omega
        rw [this, if_neg (by decide)]
        exact hd
      · rw [if_neg h2]
        show keyR (p :: withL ps who key (decide (who ≤ p.1))) x = _
        rw [key_cons, hd]
/-! ### In form -/
structure GoodR (r : ResvOf) : Prop where
  few : r.regs.length ≤ 4
  gen : 0 ≤ r.g
  rises : risesR r.regs (-1) = true
  form : (r.h = -1 ∧ r.t = 0) ∨ (r.h ≠ -1 ∧ 0 < keyR r.regs r.h ∧ 1 ≤ r.t ∧ r.t ≤ 6)
theorem form_iff {r : ResvOf} : formR r = true ↔ (r.h = -1 ∧ r.t = 0) ∨ (r.h ≠ -1 ∧ 0 < keyR r.regs r.h ∧ 1 ≤ r.t ∧ r.t ≤ 6) := by
  unfold formR
  by_cases h : r.h = -1
  · rw [if_pos (by simpa using h)]
    simp [h]
  · rw [if_neg (by simpa using h)]
    simp [h, and_assoc]
theorem good_iff {r : ResvOf} : goodR r = true ↔ GoodR r := by
  unfold goodR
  simp only [Bool.and_eq_true, decide_eq_true_eq, form_iff]
  exact ⟨fun ⟨⟨⟨a, b⟩, c⟩, d⟩ => ⟨a, b, c, d⟩, fun ⟨a, b, c, d⟩ => ⟨⟨⟨a, b⟩, c⟩, d⟩⟩
theorem nobody_good : GoodR nobodyR := ⟨by decide, by decide, rfl, .inl ⟨rfl, rfl⟩⟩
end Go.Proofs.Ytfnkdmdcjliebaa

/- Arrays of integers by value: an element by its index, and whether two arrays are the same. Conditions: the index is in range; the arrays have the type's length. -/
import Derived.Test.YtfjbehobpkmjbaaBlk
import Derived.Laws.StructEq
import Derived.WalkKit
namespace Go.Proofs.Ytfjbehobpkmjbaa
open Go

section
variable {P : Program} (w : World)
/-- What is asked of the element's type. -/
structure IntElem (P : Program) (e : TypeId) (k : IntKind) : Prop where
  under : P.underlying e = some (.int k)
  size : (P.info? e).map (·.size) = some 1
theorem IntElem.run_size {e : TypeId} {k : IntKind} (h : IntElem P e k) : (sizeOf e).run P w = .ok 1 w := by
  cases hq : P.info? e with
  | none => have := h.size; simp [hq] at this
  | some i => have := h.size; simp [hq] at this; simp [sizeOf, typeInfo, hq, this]
theorem IntElem.run_agg {e : TypeId} {k : IntKind} (h : IntElem P e k) : (isAgg e).run P w = .ok false w := by
  simp [isAgg, Sem.run_bind, run_underlying h.under]
theorem run_part_ints {e : TypeId} {k : IntKind} (h : IntElem P e k) (l : List Int) {i : Nat} (hi : i < l.length) :
    (part e (cellsOf k l) i).run P w = .ok (.int k (l.getD i 0)) w := by
  simp [part, Sem.run_bind, h.run_agg, cellsOf_get k l hi]
theorem run_index_ints {t e : TypeId} {k : IntKind} (l : List Int) (ht : P.underlying t = some (.array l.length e)) (h : IntElem P e k) {i : Nat} (hi : i < l.length) :
    (Instr.index t (.agg (cellsOf k l)) (.int .i64 i)).run P w = .ok (.int k (l.getD i 0)) w := by
  have h0 : (0 : Int) ≤ i ∧ (i : Int) < l.length := by omega
  simp [Instr.index, run_underlying ht, asIntOf, h0, h.run_size, run_part_ints w h l hi]
  omega
/-- The same where the index is of another kind of integers. -/
theorem run_index_kind {t e : TypeId} {k ki : IntKind} (l : List Int) (ht : P.underlying t = some (.array l.length e)) (h : IntElem P e k) {i : Nat} (hi : i < l.length) :
    (Instr.index t (.agg (cellsOf k l)) (.int ki i)).run P w = .ok (.int k (l.getD i 0)) w := by
  have h0 : (0 : Int) ≤ i ∧ (i : Int) < l.length := by omega
  simp [Instr.index, run_underlying ht, asIntOf, h0, h.run_size, run_part_ints w h l hi]
  omega
theorem run_equalIn_ints (d : Nat) {t e : TypeId} {k : IntKind} (xs ys : List Int) (ht : P.underlying t = some (.array xs.length e)) (h : IntElem P e k) (hl : ys.length = xs.length) :
    (Op.equalIn (d + 2) t (.agg (cellsOf k xs)) (.agg (cellsOf k ys))).run P w = .ok (xs == ys) w := by
  rw [show d + 2 = (d + 1) + 1 from rfl, Op.equalIn]
  simp only [Sem.run_bind, run_underlying ht, Result.andThen_ok, h.run_size]
  simp only [Std.Legacy.Range.forIn_eq_forIn_range', Std.Legacy.Range.size, Nat.sub_zero, Nat.add_sub_cancel, Nat.div_one]
  have main : ∀ (n s : Nat), s + n = xs.length →
      (forIn (List.range' s n 1) ((none, ()) : Option Bool × Unit) fun i _ => do
            let a ← part e (cellsOf k xs) (i * 1)
            let b ← part e (cellsOf k ys) (i * 1)
            let r ← Op.equalIn (d + 1) e a b
            if (!r) = true then pure (ForInStep.done (some false, ())) else pure (ForInStep.yield (none, ()))).run P w
        = .ok (if xs.drop s == ys.drop s then (none, ()) else (some false, ())) w := by
    intro n
    induction n with
    | zero =>
      intro s hs
      simp [List.drop_eq_nil_of_le (show xs.length ≤ s by omega), List.drop_eq_nil_of_le (show ys.length ≤ s by omega)]
    | succ n ih =>
      intro s hs
      have h1 : s < xs.length := by omega
      have h2 : s < ys.length := by omega
      rw [List.range'_succ, List.forIn_cons]
      simp only [Nat.mul_one, Sem.run_bind, run_part_ints w h xs h1, run_part_ints w h ys h2, Result.andThen_ok, run_equalIn_int w d e k k _ _ h.under]
      have g1 : xs.getD s 0 = xs[s] := by simp [List.getD_eq_getElem?_getD, h1]
      have g2 : ys.getD s 0 = ys[s] := by simp [List.getD_eq_getElem?_getD, h2]
      have hd : (xs.drop s == ys.drop s) = (xs[s] == ys[s] && xs.drop (s + 1) == ys.drop (s + 1)) := by
        rw [List.drop_eq_getElem_cons h1, List.drop_eq_getElem_cons h2]; rfl
      rw [g1, g2, hd]
      have := ih (s + 1) (by omega)
      simp only [Nat.mul_one] at this
      cases he : xs[s] == ys[s]
      · simp only [Bool.not_false, if_true, Sem.run_pure, Result.andThen_ok, Bool.false_and, Bool.false_eq_true, if_false]
      · simp only [Bool.not_true, Bool.false_eq_true, if_false, Sem.run_pure, Result.andThen_ok, Bool.true_and]
        exact this
  rw [main xs.length 0 (by omega)]
  simp only [List.drop_zero, Result.andThen_ok]
  by_cases he : xs = ys
  · subst he; simp
  · simp [he]
end
end Go.Proofs.Ytfjbehobpkmjbaa

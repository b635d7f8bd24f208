/- Regions whose order is drawn where up to three operations that touch memory are ready at once. No condition. -/
import Derived.Test.YtbejfpdkfpgipaaPlBase
namespace Go.Proofs.Ytbejfpdkfpgipaa.T3
open Go Go.RowKit
set_option linter.unusedVariables false
section
variable {P : Program} {ops : Array Oper} {md : Region.Mode} {C : World → Prop} {Q : Exit → Act → World → Prop}
inductive Tree where
  | over : Tree
  | float : Nat → Tree → Tree
  | one : Nat → Tree → Tree
  | two : Nat → Tree → Nat → Tree → Tree
  | three : Nat → Tree → Nat → Tree → Nat → Tree → Tree
def Tree.count : Tree → Nat
  | .over => 0
  | .float _ t => t.count + 1
  | .one _ t => t.count + 1
  | .two _ t _ _ => t.count + 1
  | .three _ t _ _ _ _ => t.count + 1
def Tree.fits (md : Region.Mode) (ops : Array Oper) : Tree → Array Bool → Bool
  | .over, L => (Region.ready md ops L).isEmpty
  | .float i t, L => (Region.ready md ops L).contains i && Region.free md ops L i && t.fits md ops (L.setIfInBounds i true)
  | .one i t, L => decide (Region.ready md ops L = [i]) && t.fits md ops (L.setIfInBounds i true)
  | .two i t j s, L => decide (Region.ready md ops L = [i, j]) && t.fits md ops (L.setIfInBounds i true) && s.fits md ops (L.setIfInBounds j true) && decide (t.count = s.count)
  | .three i t j s k u, L => decide (Region.ready md ops L = [i, j, k]) && t.fits md ops (L.setIfInBounds i true) && s.fits md ops (L.setIfInBounds j true) && decide (t.count = s.count) && u.fits md ops (L.setIfInBounds k true) && decide (t.count = u.count)
/-- One operation that does more than compute. -/
def acts (P : Program) (ops : Array Oper) (C : World → Prop) (i : Nat) (K : Act → World → Prop) (a : Act) (w : World) : Prop :=
  ∃ o, ops[i]? = some o ∧ ((Region.wanted o (yielded ops a.tmps) = true ∧ doneAt P o a w fun u w' => C w' ∧ K (a.put o.dst u) w') ∨ (Region.wanted o (yielded ops a.tmps) = false ∧ K (a.put o.dst undef) w))
def walkT (P : Program) (ops : Array Oper) (C : World → Prop) (R : Act → World → Prop) : Tree → Act → World → Prop
  | .over, a, w => R a w
  | .float i t, a, w => ∃ o v, ops[i]? = some o ∧ GivesIf P ops C o a v ∧ walkT P ops C R t (a.put o.dst v) w
  | .one i t, a, w => acts P ops C i (walkT P ops C R t) a w
  | .two i t j s, a, w => acts P ops C i (walkT P ops C R t) a w ∧ acts P ops C j (walkT P ops C R s) a w
  | .three i t j s k u, a, w => acts P ops C i (walkT P ops C R t) a w ∧ acts P ops C j (walkT P ops C R s) a w ∧ acts P ops C k (walkT P ops C R u) a w
theorem stepC_of_acts {i : Nat} {a : Act} {w : World} {K K' : Act → World → Prop} (hC : C w) (h : ∀ a' w', C w' → K a' w' → K' a' w') (hh : acts P ops C i K a w) : stepC P ops C i K' a w := by
  obtain ⟨o, hi, hh⟩ := hh
  unfold stepC
  simp only [hi]
  rcases hh with ⟨hw, hd⟩ | ⟨hw, hd⟩
  · rw [if_pos hw]; exact doneUpon_mono (fun u w' ⟨c, k⟩ => ⟨c, h _ _ c k⟩) hd
  · rw [if_neg (by simp [hw])]; exact h _ _ hC hd
theorem anyC_tree {R : Act → World → Prop} (sel : Region.noSelect ops = true) : ∀ (t : Tree) (L : Array Bool) (a : Act) (w : World), C w → t.fits md ops L = true → walkT P ops C R t a w → anyC P md ops C R t.count L a w
  | .over, L, a, w, _, hB, h => ⟨by simpa [Tree.fits] using hB, h⟩
  | .float i t, L, a, w, hC, hB, ⟨o, v, hi, hy, h⟩ => by
    simp only [Tree.fits, Bool.and_eq_true] at hB
    exact anyC_first hi (Region.noSelect_spec sel) t.count L a w hC (Region.free_spec hi hB.1.2) (by simpa using hB.1.1) hy (anyC_tree sel t _ _ _ hC hB.2 h)
  | .one i t, L, a, w, hC, hB, h => by
    simp only [Tree.fits, Bool.and_eq_true, decide_eq_true_eq] at hB
    refine ⟨fun e => absurd hB.1 (by rw [e]; exact List.cons_ne_nil _ _ ∘ Eq.symm), fun j hj => ?_⟩
    rw [hB.1] at hj
    obtain rfl : j = i := by simpa using hj
    exact stepC_of_acts hC (fun a' w' c k => anyC_tree sel t _ _ _ c hB.2 k) h
  | .two i t j s, L, a, w, hC, hB, h => by
    simp only [Tree.fits, Bool.and_eq_true, decide_eq_true_eq] at hB
    refine ⟨fun e => absurd hB.1.1.1 (by rw [e]; exact List.cons_ne_nil _ _ ∘ Eq.symm), fun k hk => ?_⟩
    rw [hB.1.1.1] at hk
    rcases (show k = i ∨ k = j by simpa using hk) with rfl | rfl
    · exact stepC_of_acts hC (fun a' w' c k => anyC_tree sel t _ _ _ c hB.1.1.2 k) h.1
    · refine stepC_of_acts hC (fun a' w' c k => ?_) h.2
      rw [hB.2]; exact anyC_tree sel s _ _ _ c hB.1.2 k
  | .three i t j s k u, L, a, w, hC, hB, h => by
    simp only [Tree.fits, Bool.and_eq_true, decide_eq_true_eq] at hB
    obtain ⟨⟨⟨⟨⟨h1, h2⟩, h3⟩, h4⟩, h5⟩, h6⟩ := hB
    refine ⟨fun e => absurd h1 (by rw [e]; exact List.cons_ne_nil _ _ ∘ Eq.symm), fun m hm => ?_⟩
    rw [h1] at hm
    rcases (show m = i ∨ m = j ∨ m = k by simpa using hm) with rfl | rfl | rfl
    · exact stepC_of_acts hC (fun a' w' c k => anyC_tree sel t _ _ _ c h2 k) h.1
    · refine stepC_of_acts hC (fun a' w' c k => ?_) h.2.1
      rw [h4]; exact anyC_tree sel s _ _ _ c h3 k
    · refine stepC_of_acts hC (fun a' w' c k => ?_) h.2.2
      rw [h6]; exact anyC_tree sel u _ _ _ c h5 k
/-- A region whose order is drawn, by a tree of orders. -/
theorem wp_region_tree {id : Nat} {a : Act} {w : World} {l : List Oper} (t : Tree) (C : World → Prop) (hm : P.follows .mixedOrders = true) (hB : (Region.noSelect l.toArray && decide (t.count = l.length) && t.fits .any l.toArray (Array.replicate l.length false)) = true) (hC : C w.drew)
    (h : walkT P l.toArray C (fun a' w' => Q .normal a' w') t a w.drew) : (Code.region id l.toArray true).wp P Q a w := by
  simp only [Bool.and_eq_true, decide_eq_true_eq] at hB
  refine wp_region_any hm ?_
  have := any_of_anyC (Q := Q) (fun a w _ h => h) _ _ _ _ hC (anyC_tree (md := .any) hB.1.1 t _ a w.drew hC hB.2 h)
  rw [hB.1.2] at this
  simpa using this
theorem tree_float {R : Act → World → Prop} {i : Nat} {t : Tree} {a : Act} {w : World} {o : Oper} (hi : ops[i]? = some o) (hw : Region.wanted o (yielded ops a.tmps) = true)
    (h : ∀ K : Act → Prop, (∀ a', walkT P ops C R t a' w → K a') → ∃ v, Gives P C o a v ∧ K (a.put o.dst v)) : walkT P ops C R (.float i t) a w := by
  obtain ⟨v, hv, hk⟩ := h _ (fun _ h => h)
  exact ⟨o, v, hi, .inl ⟨hw, hv⟩, hk⟩
theorem tree_one {R : Act → World → Prop} {i : Nat} {t : Tree} {a : Act} {w : World} {o : Oper} (hi : ops[i]? = some o) (hw : Region.wanted o (yielded ops a.tmps) = true)
    (h : ∀ K : Act → World → Prop, (∀ a' w', walkT P ops C R t a' w' → K a' w') → doneAt P o a w fun u w' => C w' ∧ K (a.put o.dst u) w') : walkT P ops C R (.one i t) a w :=
  ⟨o, hi, .inl ⟨hw, h _ (fun _ _ h => h)⟩⟩
theorem tree_two {R : Act → World → Prop} {i j : Nat} {t s : Tree} {a : Act} {w : World} (h1 : walkT P ops C R (.one i t) a w) (h2 : walkT P ops C R (.one j s) a w) : walkT P ops C R (.two i t j s) a w := ⟨h1, h2⟩
theorem tree_three {R : Act → World → Prop} {i j k : Nat} {t s u : Tree} {a : Act} {w : World} (h1 : walkT P ops C R (.one i t) a w) (h2 : walkT P ops C R (.one j s) a w) (h3 : walkT P ops C R (.one k u) a w) : walkT P ops C R (.three i t j s k u) a w := ⟨h1, h2, h3⟩
theorem tree_over {R : Act → World → Prop} {a : Act} {w : World} (h : R a w) : walkT P ops C R .over a w := h

end
end Go.Proofs.Ytbejfpdkfpgipaa.T3

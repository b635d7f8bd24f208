/- Regions of which three operations that do more than compute may each come first; boxes of one value, made and laid. Conditions: as each says. -/
import Derived.Test.YtkibeddfkenlkaaCbEq
namespace Go.Proofs.Ytkibeddfkenlkaa
open Go.ChangeShapes Go.WideShapes Go.ChangeAt Go.RowKit
set_option linter.unusedVariables false
set_option linter.unusedSimpArgs false
/-- A tree of orders: where several operations that do more than compute are left, each may come first. -/
inductive Tri where
  | over : Tri
  | float : Nat → Tri → Tri
  | one : Nat → Tri → Tri
  | two : Nat → Tri → Nat → Tri → Tri
  | three : Nat → Tri → Nat → Tri → Nat → Tri → Tri
def Tri.count : Tri → Nat
  | .over => 0
  | .float _ t => t.count + 1
  | .one _ t => t.count + 1
  | .two _ t _ _ => t.count + 1
  | .three _ t _ _ _ _ => t.count + 1
def Tri.fits (md : Region.Mode) (ops : Array Oper) : Tri → Array Bool → Bool
  | .over, L => (Region.ready md ops L).isEmpty
  | .float i t, L => (Region.ready md ops L).contains i && Region.free md ops L i && t.fits md ops (L.setIfInBounds i true)
  | .one i t, L => decide (Region.ready md ops L = [i]) && t.fits md ops (L.setIfInBounds i true)
  | .two i t j s, L => decide (Region.ready md ops L = [i, j]) && t.fits md ops (L.setIfInBounds i true) && s.fits md ops (L.setIfInBounds j true) && decide (t.count = s.count)
  | .three i t j s k r, L => decide (Region.ready md ops L = [i, j, k]) && t.fits md ops (L.setIfInBounds i true) && s.fits md ops (L.setIfInBounds j true) && r.fits md ops (L.setIfInBounds k true) && decide (t.count = s.count) && decide (t.count = r.count)
section
variable {P : Program} {ops : Array Oper} {C : World → Prop} {md : Region.Mode} {Q : Exit → Act → World → Prop}
def walkR (P : Program) (ops : Array Oper) (C : World → Prop) (R : Act → World → Prop) : Tri → Act → World → Prop
  | .over, a, w => R a w
  | .float i t, a, w => ∃ o v, ops[i]? = some o ∧ GivesIf P ops C o a v ∧ walkR P ops C R t (a.put o.dst v) w
  | .one i t, a, w => acts P ops C i (walkR P ops C R t) a w
  | .two i t j s, a, w => acts P ops C i (walkR P ops C R t) a w ∧ acts P ops C j (walkR P ops C R s) a w
  | .three i t j s k r, a, w => acts P ops C i (walkR P ops C R t) a w ∧ acts P ops C j (walkR P ops C R s) a w ∧ acts P ops C k (walkR P ops C R r) a w
theorem anyC_tri {R : Act → World → Prop} (sel : Region.noSelect ops = true) : ∀ (t : Tri) (L : Array Bool) (a : Act) (w : World), C w → t.fits md ops L = true → walkR P ops C R t a w → anyC P md ops C R t.count L a w
  | .over, L, a, w, _, hB, h => ⟨by simpa [Tri.fits] using hB, h⟩
  | .float i t, L, a, w, hC, hB, ⟨o, v, hi, hy, h⟩ => by
    simp only [Tri.fits, Bool.and_eq_true] at hB
    exact anyC_first hi (Region.noSelect_spec sel) t.count L a w hC (Region.free_spec hi hB.1.2) (by simpa using hB.1.1) hy (anyC_tri sel t _ _ _ hC hB.2 h)
  | .one i t, L, a, w, hC, hB, h => by
    simp only [Tri.fits, Bool.and_eq_true, decide_eq_true_eq] at hB
    refine ⟨fun e => absurd hB.1 (by rw [e]; exact List.cons_ne_nil _ _ ∘ Eq.symm), fun j hj => ?_⟩
    rw [hB.1] at hj
    obtain rfl : j = i := by simpa using hj
    exact stepC_of_acts hC (fun a' w' c k => anyC_tri sel t _ _ _ c hB.2 k) h
  | .two i t j s, L, a, w, hC, hB, h => by
    simp only [Tri.fits, Bool.and_eq_true, decide_eq_true_eq] at hB
    refine ⟨fun e => absurd hB.1.1.1 (by rw [e]; exact List.cons_ne_nil _ _ ∘ Eq.symm), fun k hk => ?_⟩
    rw [hB.1.1.1] at hk
    rcases (show k = i ∨ k = j by simpa using hk) with rfl | rfl
    · exact stepC_of_acts hC (fun a' w' c k => anyC_tri sel t _ _ _ c hB.1.1.2 k) h.1
    · refine stepC_of_acts hC (fun a' w' c k => ?_) h.2
      rw [hB.2]; exact anyC_tri sel s _ _ _ c hB.1.2 k
  | .three i t j s x r, L, a, w, hC, hB, h => by
    simp only [Tri.fits, Bool.and_eq_true, decide_eq_true_eq] at hB
    obtain ⟨⟨⟨⟨⟨h0, h1⟩, h2⟩, h3⟩, h4⟩, h5⟩ := hB
    refine ⟨fun e => absurd h0 (by rw [e]; exact List.cons_ne_nil _ _ ∘ Eq.symm), fun k hk => ?_⟩
    rw [h0] at hk
    rcases (show k = i ∨ k = j ∨ k = x by simpa using hk) with rfl | rfl | rfl
    · exact stepC_of_acts hC (fun a' w' c k => anyC_tri sel t _ _ _ c h1 k) h.1
    · refine stepC_of_acts hC (fun a' w' c k => ?_) h.2.1
      rw [h4]; exact anyC_tri sel s _ _ _ c h2 k
    · refine stepC_of_acts hC (fun a' w' c k => ?_) h.2.2
      rw [h5]; exact anyC_tri sel r _ _ _ c h3 k
theorem wp_region_tri {id : Nat} {a : Act} {w : World} {l : List Oper} (t : Tri) (C : World → Prop) (hm : P.follows .mixedOrders = true) (hB : (Region.noSelect l.toArray && decide (t.count = l.length) && t.fits .any l.toArray (Array.replicate l.length false)) = true) (hC : C w.drew)
    (h : walkR P l.toArray C (fun a' w' => Q .normal a' w') t a w.drew) : (Code.region id l.toArray true).wp P Q a w := by
  simp only [Bool.and_eq_true, decide_eq_true_eq] at hB
  refine wp_region_any hm ?_
  have := any_of_anyC (Q := Q) (fun a w _ h => h) _ _ _ _ hC (anyC_tri (md := .any) hB.1.1 t _ a w.drew hC hB.2 h)
  rw [hB.1.2] at this
  simpa using this
theorem tri_float {R : Act → World → Prop} {i : Nat} {t : Tri} {a : Act} {w : World} {o : Oper} (hi : ops[i]? = some o) (hw : Region.wanted o (yielded ops a.tmps) = true)
    (h : ∀ K : Act → Prop, (∀ a', walkR P ops C R t a' w → K a') → ∃ v, Gives P C o a v ∧ K (a.put o.dst v)) : walkR P ops C R (.float i t) a w := by
  obtain ⟨v, hv, hk⟩ := h _ (fun _ h => h)
  exact ⟨o, v, hi, .inl ⟨hw, hv⟩, hk⟩
theorem tri_one {R : Act → World → Prop} {i : Nat} {t : Tri} {a : Act} {w : World} {o : Oper} (hi : ops[i]? = some o) (hw : Region.wanted o (yielded ops a.tmps) = true)
    (h : ∀ K : Act → World → Prop, (∀ a' w', walkR P ops C R t a' w' → K a' w') → doneAt P o a w fun u w' => C w' ∧ K (a.put o.dst u) w') : walkR P ops C R (.one i t) a w :=
  ⟨o, hi, .inl ⟨hw, h _ (fun _ _ h => h)⟩⟩
theorem tri_two {R : Act → World → Prop} {i j : Nat} {t s : Tri} {a : Act} {w : World} (h1 : walkR P ops C R (.one i t) a w) (h2 : walkR P ops C R (.one j s) a w) : walkR P ops C R (.two i t j s) a w := ⟨h1, h2⟩
theorem tri_three {R : Act → World → Prop} {i j k : Nat} {t s r : Tri} {a : Act} {w : World} (h1 : walkR P ops C R (.one i t) a w) (h2 : walkR P ops C R (.one j s) a w) (h3 : walkR P ops C R (.one k r) a w) : walkR P ops C R (.three i t j s k r) a w := ⟨h1, h2, h3⟩
theorem tri_over {R : Act → World → Prop} {a : Act} {w : World} (h : R a w) : walkR P ops C R .over a w := h
end
/-! ### Boxes of one value -/
theorem box_bool (w : World) : (isAgg 4).run Try.prog w = .ok false w := by simp [go_sem]
/-- What is to be known of a type of one cell. -/
structure IsOne (T : TypeId) (z : Value) : Prop where
  agg : ∀ w, (isAgg T).run Try.prog w = .ok false w
  zero : ∀ w, (zeroValue T).run Try.prog w = .ok z w
  cells : z.cells = #[z]
theorem oneInt : IsOne 3 (.int .i64 0) := ⟨fun w => by simp [go_sem], fun w => by simp [go_sem], rfl⟩
theorem oneBool : IsOne 4 (.bool false) := ⟨fun w => by simp [go_sem], fun w => by simp [go_sem], rfl⟩
theorem oneBytes : IsOne 22 (.slice none 0 0) := ⟨fun w => by simp [go_sem], fun w => by simp [go_sem], rfl⟩
section
variable {ops : Array Oper} {rest : List Oper} {o : Oper} {a : Act} {w : World} {Q : Exit → Act → World → Prop} {T : TypeId} {z : Value}
theorem done_one_new {K : Value → World → Prop} (R : IsOne T z) (ho : o.op = .alloc T)
    (h : ∀ w', BoxA w' w.heap.size T #[z] → Below w.heap.size w w' → w'.heap.size = w.heap.size + 1 → K (.pointer (some ⟨w.heap.size, 0, none⟩)) w') : doneAt Try.prog o a w K := by
  have e := R.zero w
  have ec := R.cells
  simp only [Value.cells] at ec
  have hh := h _ (BoxA.alloc w T #[z]) ((Below.refl _ w).alloc (Nat.le_refl _) _) (World.size_alloc _ _)
  unfold doneAt execOp
  simp only [ho]
  simp [go_sem, e, ec, doneUpon]
  exact hh
theorem wpList_one_new (R : IsOne T z) (hw : Region.wanted o (yielded ops a.tmps) = true) (ho : o.op = .alloc T) (S : Nat) (hS : w.heap.size = S)
    (h : ∀ w', BoxA w' S T #[z] → Below w.heap.size w w' → w'.heap.size = w.heap.size + 1 → wpList Try.prog ops Q rest (a.put o.dst (.pointer (some ⟨S, 0, none⟩))) w') : wpList Try.prog ops Q (o :: rest) a w :=
  wanted_step hw fun K hK => by
    subst hS
    have e := R.zero w
    have ec := R.cells
    simp only [Value.cells] at ec
    unfold Oper.wp execOp
    simp only [ho]
    simp [go_sem, e, ec]
    exact hK _ _ (h _ (BoxA.alloc w T #[z]) ((Below.refl _ w).alloc (Nat.le_refl _) _) (World.size_alloc _ _))
theorem done_int_put {K : Value → World → Prop} (x y : Operand) (ho : o.op = .store 3 x y) (O : Nat) (u v : Int) (hx : a.eval x = .pointer (some ⟨O, 0, none⟩)) (hy : a.eval y = .int .i64 v) (hO : BoxA w O 3 #[.int .i64 u])
    (h : ∀ w', BoxA w' O 3 #[.int .i64 v] → Keeps (fun j => j = O) w w' → w'.heap.size = w.heap.size → K undef w') : doneAt Try.prog o a w K := by
  have hc : w.cell? ⟨O, 0, none⟩ = some (.int .i64 u) := hO.cell 0
  have hf := hO.free 0
  have hh := h _ (hO.set 0 (.int .i64 v)) ((Keeps.refl (fun j => j = O) w).setCell rfl 0 (.int .i64 v)) (by simp [World.setCell])
  unfold doneAt execOp
  simp only [ho, hx, hy]
  simp [go_sem, hc, hf, doneUpon]
  exact hh
theorem done_bytes_put {K : Value → World → Prop} (x y : Operand) (ho : o.op = .store 22 x y) (O : Nat) (u : Value) (p : Option Addr) (n c : Nat) (hx : a.eval x = .pointer (some ⟨O, 0, none⟩)) (hy : a.eval y = .slice p n c) (hO : BoxA w O 22 #[u])
    (h : ∀ w', BoxA w' O 22 #[.slice p n c] → Keeps (fun j => j = O) w w' → w'.heap.size = w.heap.size → K undef w') : doneAt Try.prog o a w K := by
  have hc : w.cell? ⟨O, 0, none⟩ = some u := hO.cell 0
  have hf := hO.free 0
  have hh := h _ (hO.set 0 (.slice p n c)) ((Keeps.refl (fun j => j = O) w).setCell rfl 0 (.slice p n c)) (by simp [World.setCell])
  unfold doneAt execOp
  simp only [ho, hx, hy]
  simp [go_sem, hc, hf, doneUpon]
  exact hh
theorem wpList_int_put (hgd : o.guard = none) (x y : Operand) (ho : o.op = .store 3 x y) (hd : o.dst = none) (O : Nat) (u v : Int) (hx : a.eval x = .pointer (some ⟨O, 0, none⟩)) (hy : a.eval y = .int .i64 v) (hO : BoxA w O 3 #[.int .i64 u])
    (h : ∀ w', BoxA w' O 3 #[.int .i64 v] → Keeps (fun j => j = O) w w' → w'.heap.size = w.heap.size → wpList Try.prog ops Q rest a w') : wpList Try.prog ops Q (o :: rest) a w :=
  wpList_plain hgd fun K hK => by
    have hc : w.cell? ⟨O, 0, none⟩ = some (.int .i64 u) := hO.cell 0
    have hf := hO.free 0
    have hh := hK _ _ (h _ (hO.set 0 (.int .i64 v)) ((Keeps.refl (fun j => j = O) w).setCell rfl 0 (.int .i64 v)) (by simp [World.setCell]))
    unfold Oper.wp execOp
    simp only [ho, hx, hy]
    simp [go_sem, hc, hf, hd]
    exact hh
theorem wpList_bool_put (hgd : o.guard = none) (x y : Operand) (ho : o.op = .store 4 x y) (hd : o.dst = none) (O : Nat) (b d : Bool) (hx : a.eval x = .pointer (some ⟨O, 0, none⟩)) (hy : a.eval y = .bool b) (hO : BoxA w O 4 #[.bool d])
    (h : ∀ w', BoxA w' O 4 #[.bool b] → Keeps (fun j => j = O) w w' → w'.heap.size = w.heap.size → wpList Try.prog ops Q rest a w') : wpList Try.prog ops Q (o :: rest) a w :=
  wpList_plain hgd fun K hK => by
    have hc : w.cell? ⟨O, 0, none⟩ = some (.bool d) := hO.cell 0
    have hf := hO.free 0
    have hh := hK _ _ (h _ (hO.set 0 (.bool b)) ((Keeps.refl (fun j => j = O) w).setCell rfl 0 (.bool b)) (by simp [World.setCell]))
    unfold Oper.wp execOp
    simp only [ho, hx, hy]
    simp [go_sem, hc, hf, hd]
    exact hh
theorem wpList_one_of (hgd : o.guard = none) (x : Operand) (ho : o.op = .box T x) (v : Value) (hv : v.cells = #[v]) (hx : a.eval x = v)
    (h : ∀ w', BoxA w' w.heap.size T #[v] → Below w.heap.size w w' → w'.heap.size = w.heap.size + 1 → wpList Try.prog ops Q rest (a.put o.dst (.pointer (some ⟨w.heap.size, 0, none⟩))) w') : wpList Try.prog ops Q (o :: rest) a w :=
  wpList_plain hgd fun K hK => by
    have ec := hv
    simp only [Value.cells] at ec
    unfold Oper.wp execOp
    simp only [ho, hx]
    simp [go_sem, ec]
    exact hK _ _ (h _ (BoxA.alloc w T #[v]) ((Below.refl _ w).alloc (Nat.le_refl _) _) (World.size_alloc _ _))
end
end Go.Proofs.Ytkibeddfkenlkaa

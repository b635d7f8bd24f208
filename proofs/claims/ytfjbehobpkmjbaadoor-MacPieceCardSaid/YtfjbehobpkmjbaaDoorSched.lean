/- Regions whose order Go leaves open, by one order of their operations: operations that only compute may float, every other one is carried out where nothing else is left to do before it. A walk of that one order serves every order, and may make memory as it goes. Condition: what the class of worlds keeps. -/
import Derived.Test.YtfjbehobpkmjbaaDoorQuietG
import Derived.Orders
namespace Go.Proofs.YtfjbehobpkmjbaaDoor
open Go

section
variable {P : Program} {ops : Array Oper} {md : Region.Mode} {C : World → Prop} {Q : Exit → Act → World → Prop}

/-- What an operation leaves: a value and a world. No panic. -/
def doneUpon (P : Program) (K : Value → World → Prop) : Result Next → Prop
  | .ok (.value u) w' => K u w'
  | .ok .skip w' => K undef w'
  | .ok (.enter f args) w' => Calls P f args w' fun e w'' => ∃ u, e = .returned u ∧ K u w''
  | _ => False
def doneAt (P : Program) (o : Oper) (a : Act) (w : World) (K : Value → World → Prop) : Prop := doneUpon P K ((execOp a.eval o).run P w)
theorem doneUpon_mono {K K' : Value → World → Prop} (h : ∀ u w', K u w' → K' u w') {r : Result Next} (hh : doneUpon P K r) : doneUpon P K' r := by
  cases r with
  | halt x w' => exact hh
  | ok n w' =>
    cases n with
    | value u => exact h _ _ hh
    | skip => exact h _ _ hh
    | enter f args => exact Calls.mono hh fun e w'' ⟨u, he, hu⟩ => ⟨u, he, h _ _ hu⟩
    | _ => exact hh
theorem wp_of_done {o : Oper} {a : Act} {w : World} {K : Act → World → Prop} (h : doneAt P o a w fun u w' => K (a.put o.dst u) w') : o.wp P a w K Q := by
  unfold doneAt at h
  unfold Oper.wp
  generalize (execOp a.eval o).run P w = r at *
  cases r with
  | halt x w' => exact h.elim
  | ok n w' =>
    cases n with
    | value u => exact h
    | skip => exact h
    | enter f args => exact Calls.mono h fun e w'' ⟨u, he, hu⟩ => by subst he; exact hu
    | _ => exact h.elim

def stepC (P : Program) (ops : Array Oper) (C : World → Prop) (i : Nat) (K : Act → World → Prop) (a : Act) (w : World) : Prop :=
  match ops[i]? with
  | none => K a w
  | some o => if Region.wanted o (yielded ops a.tmps) then doneAt P o a w fun u w' => C w' ∧ K (a.put o.dst u) w' else K (a.put o.dst undef) w
theorem stepC_mono {i : Nat} {a : Act} {w : World} {K K' : Act → World → Prop} (hC : C w) (h : ∀ a' w', C w' → K a' w' → K' a' w') (hh : stepC P ops C i K a w) : stepC P ops C i K' a w := by
  unfold stepC at *
  split
  · rename_i e; simp only [e] at hh; exact h _ _ hC hh
  · rename_i o e
    simp only [e] at hh
    split
    · rename_i hw; simp only [hw, if_true] at hh; exact doneUpon_mono (fun u w' ⟨c, k⟩ => ⟨c, h _ _ c k⟩) hh
    · rename_i hw; simp only [hw] at hh; exact h _ _ hC hh
def anyC (P : Program) (md : Region.Mode) (ops : Array Oper) (C : World → Prop) (Q : Act → World → Prop) : Nat → Array Bool → Act → World → Prop
  | 0, L, a, w => Region.ready md ops L = [] ∧ Q a w
  | m + 1, L, a, w => (Region.ready md ops L = [] → Q a w) ∧ ∀ i ∈ Region.ready md ops L, stepC P ops C i (anyC P md ops C Q m (L.setIfInBounds i true)) a w
theorem any_of_anyC {R : Act → World → Prop} (hR : ∀ a w, C w → R a w → Q .normal a w) : ∀ (m : Nat) (L : Array Bool) (a : Act) (w : World), C w → anyC P md ops C R m L a w → wpAny P md ops Q m L a w
  | 0, _, _, _, hw, h => ⟨h.1, hR _ _ hw h.2⟩
  | m + 1, L, a, w, hw, h => ⟨fun e => hR _ _ hw (h.1 e), fun i hi => by
      have hs := h.2 i hi
      unfold stepC at hs
      unfold wpOp
      split
      · rename_i e; simp only [e] at hs; exact any_of_anyC hR m _ _ _ hw hs
      · rename_i o e
        simp only [e] at hs
        split
        · rename_i hwd; simp only [hwd, if_true] at hs
          exact .inl (wp_of_done (doneUpon_mono (fun u w' ⟨c, k⟩ => any_of_anyC hR m _ _ _ c k) hs))
        · rename_i hwd; simp only [hwd] at hs; exact any_of_anyC hR m _ _ _ hw hs⟩

/-- An operation that only computes: one value in every world of the class. -/
def Gives (P : Program) (C : World → Prop) (o : Oper) (a : Act) (v : Value) : Prop := ∀ w, C w → (execOp a.eval o).run P w = .ok (.value v) w
def GivesIf (P : Program) (ops : Array Oper) (C : World → Prop) (o : Oper) (a : Act) (v : Value) : Prop :=
  (Region.wanted o (yielded ops a.tmps) = true ∧ Gives P C o a v) ∨ (Region.wanted o (yielded ops a.tmps) = false ∧ v = undef)
theorem GivesIf.keeps {o : Oper} {v : Value} {a a' : Act} (h : GivesIf P ops C o a v) (he : execOp a'.eval o = execOp a.eval o) (hw : Region.wanted o (yielded ops a'.tmps) = Region.wanted o (yielded ops a.tmps)) : GivesIf P ops C o a' v := by
  unfold GivesIf Gives at *
  rw [he, hw]; exact h
theorem GivesIf.step {i : Nat} {o : Oper} {v : Value} {a : Act} {w : World} {K : Act → World → Prop} (hi : ops[i]? = some o) (hC : C w) (h : GivesIf P ops C o a v) (hk : K (a.put o.dst v) w) : stepC P ops C i K a w := by
  unfold stepC
  simp only [hi]
  rcases h with ⟨hw, hv⟩ | ⟨hw, rfl⟩
  · simp only [hw, if_true]; unfold doneAt; rw [hv w hC]; exact ⟨hC, hk⟩
  · simp only [hw, Bool.false_eq_true, if_false]; exact hk
theorem stepC_put {j : Nat} {oi oj : Oper} {v : Value} (hj : ops[j]? = some oj) (hap : oi.apart ops oj = true) (si : ∀ cs b, oi.op ≠ .select cs b) (sj : ∀ cs b, oj.op ≠ .select cs b) {K : Act → World → Prop} {a : Act} {w : World}
    (hy : GivesIf P ops C oi a v) (h : stepC P ops C j K (a.put oi.dst v) w) : stepC P ops C j (fun a' w' => GivesIf P ops C oi a' v ∧ K (a'.put oi.dst v) w') a w := by
  obtain ⟨h1, h2, h3⟩ := Oper.apart_spec hap
  have keep : ∀ u, GivesIf P ops C oi (a.put oj.dst u) v := fun u => hy.keeps (execOp_put oi si a oj.dst u h3) (wanted_put oi a oj.dst u h3)
  unfold stepC at *
  simp only [hj] at *
  rw [wanted_put oj a oi.dst v h1] at h
  split
  · rename_i hw
    simp only [hw, if_true] at h
    unfold doneAt at *
    rw [execOp_put oj sj a oi.dst v h1] at h
    exact doneUpon_mono (fun u w' ⟨c, k⟩ => ⟨c, keep u, by rw [← Act.put_comm a v u h2]; exact k⟩) h
  · rename_i hw
    simp only [hw] at h
    exact ⟨keep _, by rw [← Act.put_comm a v undef h2]; exact h⟩
theorem not_listed {L : Array Bool} {i : Nat} (h : L.getD i true = false) : L.getD i false = false := by
  rcases Nat.lt_or_ge i L.size with l | l
  · simp [l] at h ⊢; exact h
  · simp [Array.getElem?_eq_none l] at h
theorem anyC_first {R : Act → World → Prop} {i : Nat} {o : Oper} {v : Value} (hi : ops[i]? = some o) (sel : ∀ (j : Nat) (o' : Oper) cs b, ops[j]? = some o' → o'.op ≠ .select cs b) (m : Nat) :
    ∀ (L : Array Bool) (a : Act) (w : World), C w →
      (∀ j o', ops[j]? = some o' → j ≠ i → L.getD j true = false → (∀ e ∈ o'.after, Region.binds md e = true → e.on ≠ i) → o.apart ops o' = true) →
      i ∈ Region.ready md ops L → GivesIf P ops C o a v → anyC P md ops C R m (L.setIfInBounds i true) (a.put o.dst v) w → anyC P md ops C R (m + 1) L a w := by
  induction m with
  | zero =>
    intro L a w hC _ hr hy H
    refine ⟨fun e => absurd hr (by rw [e]; exact List.not_mem_nil), fun j hj => ?_⟩
    by_cases e : j = i
    · subst e; exact hy.step hi hC H
    · have := ready_mono hj e
      rw [H.1] at this; exact absurd this List.not_mem_nil
  | succ m ih =>
    intro L a w hC free hr hy H
    refine ⟨fun e => absurd hr (by rw [e]; exact List.not_mem_nil), fun j hj => ?_⟩
    by_cases e : j = i
    · subst e; exact hy.step hi hC H
    · obtain ⟨uj, oj, hoj, after⟩ := mem_ready.1 hj
      have un := not_listed (mem_ready.1 hr).1
      have no : ∀ x ∈ oj.after, Region.binds md x = true → x.on ≠ i := fun x hx hb he => by
        have := after x hx hb
        rw [he, un] at this
        exact Bool.noConfusion this
      have both := stepC_put hoj (free j oj hoj e uj no) (fun cs b => sel i o cs b hi) (fun cs b => sel j oj cs b hoj) hy (H.2 j (ready_mono hj e))
      refine stepC_mono hC (fun a' w' c ⟨y, z⟩ => ih (L.setIfInBounds j true) a' w' c (fun k ok hk hki uk nok => ?_) (ready_mono hr (Ne.symm e)) y ?_) both
      · refine free k ok hk hki ?_ nok
        by_cases ejk : j = k
        · rw [← ejk]; exact uj
        · rwa [getD_set_ne true ejk] at uk
      · rw [Array.setIfInBounds_comm _ _ e]; exact z

/-- The walk of one order: 'true' stands by an operation that floats. -/
def walkS (P : Program) (ops : Array Oper) (C : World → Prop) (R : Act → World → Prop) : List (Nat × Bool) → Act → World → Prop
  | [], a, w => R a w
  | (i, true) :: l, a, w => ∃ o v, ops[i]? = some o ∧ GivesIf P ops C o a v ∧ walkS P ops C R l (a.put o.dst v) w
  | (i, false) :: l, a, w => ∃ o, ops[i]? = some o ∧ ((Region.wanted o (yielded ops a.tmps) = true ∧ doneAt P o a w fun u w' => C w' ∧ walkS P ops C R l (a.put o.dst u) w') ∨ (Region.wanted o (yielded ops a.tmps) = false ∧ walkS P ops C R l (a.put o.dst undef) w))
def schedB (md : Region.Mode) (ops : Array Oper) : List (Nat × Bool) → Array Bool → Bool
  | [], L => (Region.ready md ops L).isEmpty
  | (i, true) :: l, L => (Region.ready md ops L).contains i && Region.free md ops L i && schedB md ops l (L.setIfInBounds i true)
  | (i, false) :: l, L => decide (Region.ready md ops L = [i]) && schedB md ops l (L.setIfInBounds i true)
theorem anyC_sched {R : Act → World → Prop} (sel : Region.noSelect ops = true) : ∀ (l : List (Nat × Bool)) (L : Array Bool) (a : Act) (w : World), C w → schedB md ops l L = true → walkS P ops C R l a w → anyC P md ops C R l.length L a w
  | [], L, a, w, _, hB, h => ⟨by simpa [schedB] using hB, h⟩
  | (i, true) :: l, L, a, w, hC, hB, ⟨o, v, hi, hy, h⟩ => by
    simp only [schedB, Bool.and_eq_true] at hB
    exact anyC_first hi (Region.noSelect_spec sel) l.length L a w hC (Region.free_spec hi hB.1.2) (by simpa using hB.1.1) hy (anyC_sched sel l _ _ _ hC hB.2 h)
  | (i, false) :: l, L, a, w, hC, hB, ⟨o, hi, h⟩ => by
    simp only [schedB, Bool.and_eq_true, decide_eq_true_eq] at hB
    refine ⟨fun e => absurd hB.1 (by rw [e]; exact List.cons_ne_nil _ _ ∘ Eq.symm), fun j hj => ?_⟩
    rw [hB.1] at hj
    obtain rfl : j = i := by simpa using hj
    unfold stepC
    simp only [hi]
    rcases h with ⟨hw, hd⟩ | ⟨hw, hd⟩
    · rw [if_pos hw]; exact doneUpon_mono (fun u w' ⟨c, k⟩ => ⟨c, anyC_sched sel l _ _ _ c hB.2 k⟩) hd
    · rw [if_neg (by simp [hw])]; exact anyC_sched sel l _ _ _ hC hB.2 hd

/-- A region whose order is drawn, by one order. -/
theorem wp_region_sched {id : Nat} {a : Act} {w : World} {l : List Oper} (s : List (Nat × Bool)) (C : World → Prop) (hm : P.follows .mixedOrders = true) (hB : (Region.noSelect l.toArray && decide (s.length = l.length) && schedB .any l.toArray s (Array.replicate l.length false)) = true) (hC : C w.drew)
    (h : walkS P l.toArray C (fun a' w' => Q .normal a' w') s a w.drew) : (Code.region id l.toArray true).wp P Q a w := by
  simp only [Bool.and_eq_true, decide_eq_true_eq] at hB
  refine wp_region_any hm ?_
  have := any_of_anyC (Q := Q) (fun a w _ h => h) _ _ _ _ hC (anyC_sched (md := .any) hB.1.1 s _ a w.drew hC hB.2 h)
  rw [hB.1.2] at this
  simpa using this

/-- A tree of orders: where several operations that do more than compute are left, each may come first. -/
inductive Tree where
  | over : Tree
  | float : Nat → Tree → Tree
  | one : Nat → Tree → Tree
  | two : Nat → Tree → Nat → Tree → Tree
def Tree.count : Tree → Nat
  | .over => 0
  | .float _ t => t.count + 1
  | .one _ t => t.count + 1
  | .two _ t _ _ => t.count + 1
def Tree.fits (md : Region.Mode) (ops : Array Oper) : Tree → Array Bool → Bool
  | .over, L => (Region.ready md ops L).isEmpty
  | .float i t, L => (Region.ready md ops L).contains i && Region.free md ops L i && t.fits md ops (L.setIfInBounds i true)
  | .one i t, L => decide (Region.ready md ops L = [i]) && t.fits md ops (L.setIfInBounds i true)
  | .two i t j s, L => decide (Region.ready md ops L = [i, j]) && t.fits md ops (L.setIfInBounds i true) && s.fits md ops (L.setIfInBounds j true) && decide (t.count = s.count)
/-- One operation that does more than compute. -/
def acts (P : Program) (ops : Array Oper) (C : World → Prop) (i : Nat) (K : Act → World → Prop) (a : Act) (w : World) : Prop :=
  ∃ o, ops[i]? = some o ∧ ((Region.wanted o (yielded ops a.tmps) = true ∧ doneAt P o a w fun u w' => C w' ∧ K (a.put o.dst u) w') ∨ (Region.wanted o (yielded ops a.tmps) = false ∧ K (a.put o.dst undef) w))
def walkT (P : Program) (ops : Array Oper) (C : World → Prop) (R : Act → World → Prop) : Tree → Act → World → Prop
  | .over, a, w => R a w
  | .float i t, a, w => ∃ o v, ops[i]? = some o ∧ GivesIf P ops C o a v ∧ walkT P ops C R t (a.put o.dst v) w
  | .one i t, a, w => acts P ops C i (walkT P ops C R t) a w
  | .two i t j s, a, w => acts P ops C i (walkT P ops C R t) a w ∧ acts P ops C j (walkT P ops C R s) a w
theorem stepC_of_acts {i : Nat} {a : Act} {w : World} {K K' : Act → World → Prop} (hC : C w) (h : ∀ a' w', C w' → K a' w' → K' a' w') (hh : acts P ops C i K a w) : stepC P ops C i K' a w := by
  obtain ⟨o, hi, hh⟩ := hh
  unfold stepC
  simp only [hi]
  rcases hh with ⟨hw, hd⟩ | ⟨hw, hd⟩
  · rw [if_pos hw]; exact doneUpon_mono (fun u w' ⟨c, k⟩ => ⟨c, h _ _ c k⟩) hd
  · rw [if_neg (by simp [hw])]; exact h _ _ hC hd
theorem anyC_tree {R : Act → World → Prop} (sel : Region.noSelect ops = true) : ∀ (t : Tree) (L : Array Bool) (a : Act) (w : World), C w → t.fits md ops L = true → walkT P ops C R t a w → anyC P md ops C R t.count L a w
  | .over, L, a, w, _, hB, h => ⟨by simpa [Tree.fits] using hB, h⟩
  | .float i t, L, a, w, hC, hB, ⟨o, v, hi, hy, h⟩ => by
    simp only [Tree.fits, Bool.and_eq_true] at hB
    exact anyC_first hi (Region.noSelect_spec sel) t.count L a w hC (Region.free_spec hi hB.1.2) (by simpa using hB.1.1) hy (anyC_tree sel t _ _ _ hC hB.2 h)
  | .one i t, L, a, w, hC, hB, h => by
    simp only [Tree.fits, Bool.and_eq_true, decide_eq_true_eq] at hB
    refine ⟨fun e => absurd hB.1 (by rw [e]; exact List.cons_ne_nil _ _ ∘ Eq.symm), fun j hj => ?_⟩
    rw [hB.1] at hj
    obtain rfl : j = i := by simpa using hj
    exact stepC_of_acts hC (fun a' w' c k => anyC_tree sel t _ _ _ c hB.2 k) h
  | .two i t j s, L, a, w, hC, hB, h => by
    simp only [Tree.fits, Bool.and_eq_true, decide_eq_true_eq] at hB
    refine ⟨fun e => absurd hB.1.1.1 (by rw [e]; exact List.cons_ne_nil _ _ ∘ Eq.symm), fun k hk => ?_⟩
    rw [hB.1.1.1] at hk
    rcases (show k = i ∨ k = j by simpa using hk) with rfl | rfl
    · exact stepC_of_acts hC (fun a' w' c k => anyC_tree sel t _ _ _ c hB.1.1.2 k) h.1
    · refine stepC_of_acts hC (fun a' w' c k => ?_) h.2
      rw [hB.2]; exact anyC_tree sel s _ _ _ c hB.1.2 k
/-- A region whose order is drawn, by a tree of orders. -/
theorem wp_region_tree {id : Nat} {a : Act} {w : World} {l : List Oper} (t : Tree) (C : World → Prop) (hm : P.follows .mixedOrders = true) (hB : (Region.noSelect l.toArray && decide (t.count = l.length) && t.fits .any l.toArray (Array.replicate l.length false)) = true) (hC : C w.drew)
    (h : walkT P l.toArray C (fun a' w' => Q .normal a' w') t a w.drew) : (Code.region id l.toArray true).wp P Q a w := by
  simp only [Bool.and_eq_true, decide_eq_true_eq] at hB
  refine wp_region_any hm ?_
  have := any_of_anyC (Q := Q) (fun a w _ h => h) _ _ _ _ hC (anyC_tree (md := .any) hB.1.1 t _ a w.drew hC hB.2 h)
  rw [hB.1.2] at this
  simpa using this
theorem tree_float {R : Act → World → Prop} {i : Nat} {t : Tree} {a : Act} {w : World} {o : Oper} (hi : ops[i]? = some o) (hw : Region.wanted o (yielded ops a.tmps) = true)
    (h : ∀ K : Act → Prop, (∀ a', walkT P ops C R t a' w → K a') → ∃ v, Gives P C o a v ∧ K (a.put o.dst v)) : walkT P ops C R (.float i t) a w := by
  obtain ⟨v, hv, hk⟩ := h _ (fun _ h => h)
  exact ⟨o, v, hi, .inl ⟨hw, hv⟩, hk⟩
theorem tree_one {R : Act → World → Prop} {i : Nat} {t : Tree} {a : Act} {w : World} {o : Oper} (hi : ops[i]? = some o) (hw : Region.wanted o (yielded ops a.tmps) = true)
    (h : ∀ K : Act → World → Prop, (∀ a' w', walkT P ops C R t a' w' → K a' w') → doneAt P o a w fun u w' => C w' ∧ K (a.put o.dst u) w') : walkT P ops C R (.one i t) a w :=
  ⟨o, hi, .inl ⟨hw, h _ (fun _ _ h => h)⟩⟩
theorem tree_two {R : Act → World → Prop} {i j : Nat} {t s : Tree} {a : Act} {w : World} (h1 : walkT P ops C R (.one i t) a w) (h2 : walkT P ops C R (.one j s) a w) : walkT P ops C R (.two i t j s) a w := ⟨h1, h2⟩
theorem tree_over {R : Act → World → Prop} {a : Act} {w : World} (h : R a w) : walkT P ops C R .over a w := h

theorem walk_float {R : Act → World → Prop} {i : Nat} {l : List (Nat × Bool)} {a : Act} {w : World} {o : Oper} (hi : ops[i]? = some o) (hw : Region.wanted o (yielded ops a.tmps) = true)
    (h : ∀ K : Act → Prop, (∀ a', walkS P ops C R l a' w → K a') → ∃ v, Gives P C o a v ∧ K (a.put o.dst v)) : walkS P ops C R ((i, true) :: l) a w := by
  obtain ⟨v, hv, hk⟩ := h _ (fun _ h => h)
  exact ⟨o, v, hi, .inl ⟨hw, hv⟩, hk⟩
theorem walk_done {R : Act → World → Prop} {i : Nat} {l : List (Nat × Bool)} {a : Act} {w : World} {o : Oper} (hi : ops[i]? = some o) (hw : Region.wanted o (yielded ops a.tmps) = true)
    (h : ∀ K : Act → World → Prop, (∀ a' w', walkS P ops C R l a' w' → K a' w') → doneAt P o a w fun u w' => C w' ∧ K (a.put o.dst u) w') : walkS P ops C R ((i, false) :: l) a w :=
  ⟨o, hi, .inl ⟨hw, h _ (fun _ _ h => h)⟩⟩
theorem walk_nil {R : Act → World → Prop} {a : Act} {w : World} (h : R a w) : walkS P ops C R [] a w := h
theorem gives_move {o : Oper} {a : Act} {K : Act → Prop} (x : Operand) (ho : o.op = .move x) (hk : K (a.put o.dst (a.eval x))) : ∃ v, Gives P C o a v ∧ K (a.put o.dst v) :=
  ⟨_, fun w _ => by unfold execOp; simp only [ho]; rfl, hk⟩
theorem gives_assign {o : Oper} {a : Act} {K : Act → Prop} (x : Operand) (ho : o.op = .assign x) (hk : K (a.put o.dst (a.eval x))) : ∃ v, Gives P C o a v ∧ K (a.put o.dst v) :=
  ⟨_, fun w _ => by unfold execOp; simp only [ho]; rfl, hk⟩
/-- A law of a quiet operation serves here too, if it is no call. -/
theorem gives_of_quiet {o : Oper} {a : Act} {K : Act → Prop} (hn : ∀ w f args w', (execOp a.eval o).run P w ≠ .ok (.enter f args) w') (hs : ∀ w w', (execOp a.eval o).run P w ≠ .ok .skip w') (h : o.quiet P a C K) : ∃ v, Gives P C o a v ∧ K (a.put o.dst v) := by
  obtain ⟨v, hv, hk⟩ := h
  refine ⟨v, fun w hw => ?_, hk⟩
  have := hv w hw
  unfold Oper.quietAt at this
  generalize hr : (execOp a.eval o).run P w = r at *
  cases r with
  | halt x w' => exact this.elim
  | ok n w' =>
    cases n with
    | value u => obtain ⟨rfl, rfl⟩ := this; rfl
    | skip => exact absurd hr (hs _ _)
    | enter f args => exact absurd hr (hn _ _ _ _)
    | _ => exact this.elim
/-- A call whose callee keeps the class. -/
theorem done_call {o : Oper} {a : Act} {w : World} {K : Value → World → Prop} (x : Operand) (xs : Array Operand) (ts : Array TypeId) (ho : o.op = .call { callee := .value x, args := xs, argTypes := ts }) (g : FuncId) (args : Array Value)
    (hx : a.eval x = .func (.func g) #[] #[]) (ha : xs.map a.eval = args) (hf : (callFunc g args).run P w = .ok (.enter g args) w) (hc : Calls P g args w fun e w' => ∃ u, e = .returned u ∧ K u w') : doneAt P o a w K := by
  unfold doneAt execOp
  simp only [ho, resolve, hx, ha, Deferred.ofValue, Sem.run_bind, Sem.run_pure, Result.andThen_ok, invoke, Array.append_empty, Array.empty_append, hf]
  exact hc
end
end Go.Proofs.YtfjbehobpkmjbaaDoor

/- Slices of elements of one size, said as lists: where they lie, how they grow by append. Conditions: as each says. -/
import Derived.Test.YtebbnkkhabehmaaPlBase
import Derived.ArgAppend
import Derived.Deep.Upon
import Derived.Deep.MidRow
import Derived.Maps.AppendAt
namespace Go.Proofs.Ytebbnkkhabehmaa
open Go.ChangeShapes Go.WideShapes Go.ChangeAt Go.RowKit
set_option linter.unusedVariables false

/-- A truth that says P. -/
def SaysB (e : Ending) (P : Prop) : Prop := ∃ b : Bool, e = .returned (.bool b) ∧ (b = true ↔ P)
theorem SaysB.yes {P : Prop} (h : P) : SaysB (.returned (.bool true)) P := ⟨true, rfl, fun _ => h, fun _ => rfl⟩
theorem SaysB.no {P : Prop} (h : ¬ P) : SaysB (.returned (.bool false)) P := ⟨false, rfl, fun h' => (by simp at h'), fun h' => absurd h' h⟩
theorem SaysB.is {e : Ending} {P : Prop} (h : SaysB e P) (hp : P) : e = .returned (.bool true) := by
  obtain ⟨b, rfl, hb⟩ := h
  rw [hb.2 hp]
theorem SaysB.not {e : Ending} {P : Prop} (h : SaysB e P) (hp : ¬ P) : e = .returned (.bool false) := by
  obtain ⟨b, rfl, hb⟩ := h
  cases b with
  | true => exact absurd (hb.1 rfl) hp
  | false => rfl
/-- A list of elements lies behind a pointer, each of sz cells. -/
def RowsAt {α : Type} (sz : Nat) (C : α → List Value) (W : World) (q : Option Addr) (l : List α) : Prop :=
  l = [] ∨ ∃ B o, q = some ⟨B, o, none⟩ ∧ B < W.heap.size ∧ ∀ i c, l[i]? = some c → W.rangeAt B (o + sz * i) (C c)
/-- A slice that holds a list, in a block between base and top; nil, if there is none. -/
def OwnL {α : Type} (e : TypeId) (sz : Nat) (C : α → List Value) (w : World) (base top : Nat) (v : Value) (l : List α) : Prop :=
  (v = .slice none 0 0 ∧ l = []) ∨ ∃ B c cur, v = .slice (some ⟨B, 0, none⟩) l.length c ∧ base ≤ B ∧ B < top ∧ w.heap[B]? = some (.cells cur e (0, 0)) ∧ l.length ≤ c ∧ c ≤ maxLen ∧ cur.size = c * sz ∧ cur.toList.take (l.length * sz) = l.flatMap C
section
variable {α : Type} {e : TypeId} {sz base top : Nat} {C : α → List Value} {v : Value} {l m : List α} {w w' : World} {q : Option Addr}
theorem rangeAt_below {B o M : Nat} {cs : List Value} (h : w.rangeAt B o cs) (hb : Below M w w') (hB : B < M) : w'.rangeAt B o cs := fun j v hv => (hb.cell (p := ⟨B, o + j, none⟩) hB).trans (h j v hv)
theorem RowsAt.below (h : RowsAt sz C w q l) (hb : Below w.heap.size w w') : RowsAt sz C w' q l := by
  rcases h with h | ⟨B, o, h1, h2, h3⟩
  · exact .inl h
  · exact .inr ⟨B, o, h1, Nat.lt_of_lt_of_le h2 hb.size, fun i c hc => rangeAt_below (h3 i c hc) hb h2⟩
/-- Where its block lies. -/
def LowAt (M : Nat) (q : Option Addr) : Prop := ∀ B o, q = some ⟨B, o, none⟩ → B < M
theorem RowsAt.belowM {M : Nat} (h : RowsAt sz C w q l) (hb : Below M w w') (hq : LowAt M q) (hM : M ≤ w.heap.size) : RowsAt sz C w' q l := by
  rcases h with h | ⟨B, o, h1, h2, h3⟩
  · exact .inl h
  · exact .inr ⟨B, o, h1, Nat.lt_of_lt_of_le h2 hb.size, fun i c hc => rangeAt_below (h3 i c hc) hb (hq B o h1)⟩
theorem flatMap_len (hC : ∀ c, (C c).length = sz) : ∀ l : List α, (l.flatMap C).length = l.length * sz
  | [] => by simp
  | c :: l => by rw [List.flatMap_cons, List.length_append, flatMap_len hC l, hC, List.length_cons, Nat.succ_mul, Nat.add_comm]
theorem flatMap_at (hC : ∀ c, (C c).length = sz) : ∀ (l : List α) (i j : Nat) (c : α), l[i]? = some c → j < sz → (l.flatMap C)[i * sz + j]? = (C c)[j]?
  | [], i, j, c, h, _ => by simp at h
  | d :: l, 0, j, c, h, hj => by
    obtain rfl : d = c := by simpa using h
    rw [List.flatMap_cons, Nat.zero_mul, Nat.zero_add, List.getElem?_append_left (by rw [hC]; exact hj)]
  | d :: l, i + 1, j, c, h, hj => by
    rw [List.flatMap_cons, List.getElem?_append_right (by rw [hC, Nat.succ_mul]; omega), hC, show (i + 1) * sz + j - sz = i * sz + j by rw [Nat.succ_mul]; omega]
    exact flatMap_at hC l i j c (by simpa using h) hj
theorem OwnL.nil (e : TypeId) (sz : Nat) (C : α → List Value) (w : World) (base top : Nat) : OwnL e sz C w base top (.slice none 0 0) ([] : List α) := .inl ⟨rfl, rfl⟩
theorem OwnL.empty (e : TypeId) (sz : Nat) (C : α → List Value) (w : World) (base : Nat) (hb : base ≤ w.heap.size) : OwnL e sz C (w.alloc (.cells #[] e)) base (w.heap.size + 1) (.slice (some ⟨w.heap.size, 0, none⟩) 0 0) ([] : List α) :=
  .inr ⟨w.heap.size, 0, #[], rfl, hb, by omega, heap_alloc_new _ _, Nat.le_refl _, Nat.zero_le _, by simp, by simp⟩
theorem OwnL.same (h : OwnL e sz C w base top v l) (hb : ∀ B, base ≤ B → B < top → w'.heap[B]? = w.heap[B]?) : OwnL e sz C w' base top v l := by
  rcases h with h | ⟨B, c, cur, h1, h2, h3, h4, h5⟩
  · exact .inl h
  · exact .inr ⟨B, c, cur, h1, h2, h3, by rw [hb B h2 h3]; exact h4, h5⟩
theorem OwnL.below (h : OwnL e sz C w base top v l) (ht : top ≤ w.heap.size) (hb : Below w.heap.size w w') : OwnL e sz C w' base top v l := h.same fun B _ hB => hb.block B (by omega)
theorem OwnL.raise {top' : Nat} (h : OwnL e sz C w base top v l) (ht : top ≤ top') : OwnL e sz C w base top' v l := by
  rcases h with h | ⟨B, c, cur, h1, h2, h3, h4, h5⟩
  · exact .inl h
  · exact .inr ⟨B, c, cur, h1, h2, by omega, h4, h5⟩
theorem OwnL.lower {base' : Nat} (h : OwnL e sz C w base top v l) (hb : base' ≤ base) : OwnL e sz C w base' top v l := by
  rcases h with h | ⟨B, c, cur, h1, h2, h3, h4, h5⟩
  · exact .inl h
  · exact .inr ⟨B, c, cur, h1, by omega, h3, h4, h5⟩
theorem OwnL.owns (hC : ∀ c, (C c).length = sz) (h : OwnL e sz C w base top v l) : w.ownsRow base e sz v l.length (l.flatMap C) := by
  rcases h with ⟨h1, h2⟩ | ⟨B, c, cur, h1, h2, _, h4, h5, h6, h7, h8⟩
  · subst h2; exact ⟨by simp, .inl ⟨h1, rfl⟩⟩
  · exact ⟨flatMap_len hC l, .inr ⟨B, c, cur, h1, h2, h4, h5, h6, h7, h8⟩⟩
theorem OwnL.of_owns (h : w.ownsRow base e sz v l.length (l.flatMap C)) : OwnL e sz C w base w.heap.size v l := by
  obtain ⟨_, ⟨h1, h0⟩ | ⟨B, c, cur, h1, h2, h4, h5⟩⟩ := h
  · exact .inl ⟨h1, List.eq_nil_of_length_eq_zero h0⟩
  · exact .inr ⟨B, c, cur, h1, h2, (Array.getElem?_eq_some_iff.1 h4).1, h4, h5⟩
theorem OwnL.rows (hC : ∀ c, (C c).length = sz) (h : OwnL e sz C w base top v l) : ∃ p c, v = .slice p l.length c ∧ l.length ≤ c ∧ c ≤ maxLen ∧ RowsAt sz C w p l ∧ (∀ B o, p = some ⟨B, o, none⟩ → base ≤ B ∧ B < top ∧ o = 0) := by
  rcases h with ⟨h1, h2⟩ | ⟨B, c, cur, h1, h2, h3, h4, h5, h6, h7, h8⟩
  · subst h2; exact ⟨none, 0, h1, Nat.le_refl _, Nat.zero_le _, .inl rfl, fun B o e => by cases e⟩
  · refine ⟨some ⟨B, 0, none⟩, c, h1, h5, h6, .inr ⟨B, 0, rfl, (Array.getElem?_eq_some_iff.1 h4).1, fun i a ha j u hu => ?_⟩, fun B' o e => by cases e; exact ⟨h2, h3, rfl⟩⟩
    have hj : j < sz := by
      rcases Nat.lt_or_ge j sz with hj | hj
      · exact hj
      · rw [List.getElem?_eq_none (by rw [hC]; exact hj)] at hu; cases hu
    have hi : i < l.length := (List.getElem?_eq_some_iff.1 ha).1
    have hlt : i * sz + j < l.length * sz := by
      have : (i + 1) * sz ≤ l.length * sz := Nat.mul_le_mul_right _ hi
      rw [Nat.succ_mul] at this; omega
    have := flatMap_at hC l i j a ha hj
    rw [← h8, List.getElem?_take_of_lt hlt] at this
    rw [cell_of_row w B _ cur _ (0, 0) h4, Nat.zero_add, Nat.mul_comm sz i]
    rw [Array.getElem?_toList] at this
    rw [this]; exact hu
theorem OwnL.block (h : OwnL e sz C w base top v l) : ∀ B, v.ownBlock = some B → base ≤ B := by
  rcases h with ⟨h1, _⟩ | ⟨B, c, cur, h1, h2, _⟩
  · subst h1; intro B hB; simp [Value.ownBlock] at hB
  · subst h1; intro B' hB; simp [Value.ownBlock] at hB; omega
theorem OwnL.blockTop (h : OwnL e sz C w base top v l) : ∀ B, v.ownBlock = some B → B < top := by
  rcases h with ⟨h1, _⟩ | ⟨B, c, cur, h1, h2, h3, _⟩
  · subst h1; intro B hB; simp [Value.ownBlock] at hB
  · subst h1; intro B' hB; simp [Value.ownBlock] at hB; omega
end
theorem below_own1 {w w' : World} {base : Nat} {row : Option Nat} (h : w.grownBy w' row) (hr : ∀ B, row = some B → base ≤ B) (hb : base ≤ w.heap.size) : Below base w w' :=
  ⟨h.os, h.tape, h.output, h.size, fun i hi => h.block i (by omega) (fun e => by have := hr i e.symm; omega)⟩
/-- What append needs to know of an element's type. -/
structure ElemOf {α : Type} (P : Program) (t e : TypeId) (sz by' : Nat) (C : α → List Value) : Prop where
  under : P.underlying t = some (.slice e)
  size : (P.info? e).map (·.size) = some sz
  bytes : (P.info? e).map (·.bytes) = some by'
  zero : ∃ z, (P.info? e).bind (·.zero) = some z ∧ z.cells.size = sz
  len : ∀ c, (C c).length = sz
  one : ∀ c, ∀ u ∈ C c, u.oneCell' = true
  pos : 0 < sz
section
variable {α : Type} {P : Program} {ops : Array Oper} {rest : List Oper} {o : Oper} {a : Act} {w : World} {Q : Exit → Act → World → Prop} {t e : TypeId} {sz by' : Nat} {C : α → List Value}
theorem run_append_list (E : ElemOf P t e sz by' C) (ty : TypeId) (base top : Nat) (v : Value) (l m : List α) (p : Option Addr) (c : Nat) (hv : OwnL e sz C w base top v l) (hm : RowsAt sz C w p m) (hk : l.length + m.length ≤ 4000000) (hby : by' ≤ 1000) (hbase : base ≤ w.heap.size) :
    ∃ v' w', (Builtin.append_ #[t, t] ty #[v, .slice p m.length c]).run P w = .ok v' w' ∧ OwnL e sz C w' base w'.heap.size v' (l ++ m) ∧ w.grownBy w' v.ownBlock ∧ (v'.ownBlock = v.ownBlock ∨ v'.ownBlock = some w.heap.size) := by
  obtain ⟨z, hz, hzs⟩ := E.zero
  cases hq : P.info? e with
  | none => have := E.size; rw [hq] at this; simp at this
  | some i =>
    have hsz := E.size
    have hbb := E.bytes
    rw [hq] at hsz hbb hz
    have hsz' : i.size = sz := by simpa using hsz
    have hzz : i.zero = some z := by simpa using hz
    have hby' : i.bytes = by' := by simpa using hbb
    have top' : base ≤ w.heap.size → OwnL e sz C w base w.heap.size v l := fun _ => OwnL.of_owns (hv.owns E.len)
    rcases hm with rfl | ⟨B, off, rfl, hB, hc⟩
    · have hsrc : Src P i.size t (.slice p 0 c) 0 [] w := by
        cases p with
        | none => exact Src.ofNil w E.under c
        | some ad => exact Src.ofSlice w E.under ad 0 c [] (by simp) (fun j u hu => by simp at hu) (fun u hu => by cases hu)
      obtain ⟨q, c', rfl, hc'⟩ : ∃ q c', v = .slice q l.length c' ∧ l.length ≤ c' := by
        rcases hv with ⟨h1, h2⟩ | ⟨B, c, cur, h1, _, _, _, h5, _⟩
        · subst h2; exact ⟨none, 0, h1, Nat.le_refl _⟩
        · exact ⟨_, c, h1, h5⟩
      refine ⟨_, w, run_append_nothing (P := P) w t t ty e i E.under hq q l.length c' hc' (.slice p 0 c) hsrc, ?_, ⟨rfl, rfl, rfl, Nat.le_refl _, fun _ _ _ => rfl⟩, .inl rfl⟩
      rw [List.append_nil]; exact top' hbase
    · obtain ⟨v', w', hrun, r1, r2, _, r3⟩ := run_append_own_at (P := P) w base t ty e i z sz by' E.under hq hzz hsz' hby' hzs E.pos
        v l.length (l.flatMap C) (hv.owns E.len) ⟨B, off, none⟩ m.length c (m.flatMap C) (flatMap_len E.len m) (fun j u hu => by
          have hlt : j < m.length * sz := by rw [← flatMap_len E.len m]; exact (List.getElem?_eq_some_iff.1 hu).1
          have hp := E.pos
          have hd : j / sz < m.length := (Nat.div_lt_iff_lt_mul hp).2 hlt
          obtain ⟨x, hx⟩ : ∃ x, m[j / sz]? = some x := ⟨_, List.getElem?_eq_getElem hd⟩
          have hj := Nat.div_add_mod j sz
          have hmod := Nat.mod_lt j hp
          have e1 := flatMap_at E.len m (j / sz) (j % sz) x hx hmod
          rw [Nat.mul_comm, hj, hu] at e1
          have := hc (j / sz) x hx (j % sz) u e1.symm
          rw [addr_add]
          rw [Nat.add_assoc, hj] at this; exact this) (fun u hu => by
            obtain ⟨x, _, hx⟩ := List.mem_flatMap.1 hu
            exact E.one x u hx) (by simp only [maxLen]; omega) (by
          have : (l.length + m.length) * by' ≤ 4000000 * 1000 := Nat.mul_le_mul hk hby
          omega) hbase
      rw [← List.flatMap_append, ← List.length_append] at r1
      exact ⟨v', w', hrun, OwnL.of_owns r1, r2, r3⟩
theorem wpList_append_list (E : ElemOf P t e sz by' C) (hgd : o.guard = none) (s x : Operand) (ho : o.op = .call { callee := .builtin .append, args := #[s, x], argTypes := #[t, t] }) (base top : Nat) (v : Value) (l m : List α) (p : Option Addr) (n c : Nat) (hs : a.eval s = v) (hx : a.eval x = .slice p n c) (hn : n = m.length)
    (hv : OwnL e sz C w base top v l) (hm : RowsAt sz C w p m) (hk : l.length + m.length ≤ 4000000) (hby : by' ≤ 1000) (hbase : base ≤ w.heap.size)
    (h : ∀ v' w', OwnL e sz C w' base w'.heap.size v' (l ++ m) → w.grownBy w' v.ownBlock → (v'.ownBlock = v.ownBlock ∨ v'.ownBlock = some w.heap.size) → wpList P ops Q rest (a.put o.dst v') w') : wpList P ops Q (o :: rest) a w := by
  subst hn
  obtain ⟨v', w', hrun, r1, r2, r3⟩ := run_append_list E o.type base top v l m p c hv hm hk hby hbase
  refine wpList_plain hgd fun K hK => ?_
  unfold Oper.wp
  simp [execOp, ho, resolve, invoke, builtin, hs, hx, hrun, Result.andThen]
  exact hK _ _ (h v' w' r1 r2 r3)
end
/-- A list that grows in its own block C or in new ones: all else that was there in V lies as it lay. -/
structure Grown (V w : World) (C : Nat) (v : Value) : Prop where
  os : w.os = V.os
  tape : w.tape = V.tape
  output : w.output = V.output
  size : V.heap.size ≤ w.heap.size
  block : ∀ k, k < V.heap.size → k ≠ C → w.heap[k]? = V.heap[k]?
  row : ∀ B, v.ownBlock = some B → B = C ∨ V.heap.size ≤ B
theorem Grown.start {V : World} {C : Nat} {v : Value} (h : v.ownBlock = none ∨ v.ownBlock = some C) : Grown V V C v :=
  ⟨rfl, rfl, rfl, Nat.le_refl _, fun _ _ _ => rfl, fun B hB => by rcases h with h | h <;> rw [h] at hB <;> cases hB; exact .inl rfl⟩
theorem Grown.below {V w w' : World} {C : Nat} {v : Value} (h : Grown V w C v) (hb : Below w.heap.size w w') : Grown V w' C v :=
  ⟨hb.os.trans h.os, hb.tape.trans h.tape, hb.output.trans h.output, Nat.le_trans h.size hb.size, fun k hk hn => (hb.block k (Nat.lt_of_lt_of_le hk h.size)).trans (h.block k hk hn), h.row⟩
theorem Grown.append {V w w' : World} {C : Nat} {v v' : Value} (h : Grown V w C v) (hg : w.grownBy w' v.ownBlock) (hr : v'.ownBlock = v.ownBlock ∨ v'.ownBlock = some w.heap.size) : Grown V w' C v' :=
  ⟨hg.os.trans h.os, hg.tape.trans h.tape, hg.output.trans h.output, Nat.le_trans h.size hg.size, fun k hk hn => (hg.block k (Nat.lt_of_lt_of_le hk h.size) (fun e => by
      rcases h.row k e.symm with q | q
      · exact hn q
      · omega)).trans (h.block k hk hn), fun B hB => by
    rcases hr with hr | hr
    · rw [hr] at hB; exact h.row B hB
    · rw [hr] at hB; cases hB; exact .inr h.size⟩
theorem Grown.low {V w : World} {C M : Nat} {v : Value} (h : Grown V w C v) (hC : M ≤ C) (hM : M ≤ V.heap.size) : Below M V w := ⟨h.os, h.tape, h.output, h.size, fun k hk => h.block k (by omega) (by omega)⟩
theorem Grown.range {V w : World} {C B o : Nat} {v : Value} {cs : List Value} (h : Grown V w C v) (hr : V.rangeAt B o cs) (hB : B < V.heap.size) (hC : B ≠ C) : w.rangeAt B o cs := fun j u hu =>
  (World.cell?_of_block (w := V) (w' := w) (a := ⟨B, o + j, none⟩) (h.block B hB hC)).trans (hr j u hu)
theorem Grown.cell {V w : World} {C B o : Nat} {v : Value} (h : Grown V w C v) (hB : B < V.heap.size) (hC : B ≠ C) : w.cell? ⟨B, o, none⟩ = V.cell? ⟨B, o, none⟩ := World.cell?_of_block (w := V) (w' := w) (a := ⟨B, o, none⟩) (h.block B hB hC)
end Go.Proofs.Ytebbnkkhabehmaa

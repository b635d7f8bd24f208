/- Rows of places that are written over; slices.IndexFunc and slices.DeleteFunc with the closure that asks for one place. Conditions: as each says. -/
import Derived.Test.YtlaclakndleonaaCmPlace
namespace Go.Proofs.Ytlaclakndleonaa
open Go.ChangeShapes Go.WideShapes Go.ChangeAt Go.RowKit
set_option linter.unusedVariables false
/-- Block B holds room for cap places, the first of which are l's. -/
def PB (W : World) (B cap : Nat) (l : List (Int × Int)) : Prop := ∃ cur rest, W.heap[B]? = some (.cells cur plT (0, 0)) ∧ cur.size = cap * 2 ∧ cur.toList = l.flatMap placeC ++ rest
theorem flat_len (l : List (Int × Int)) : (l.flatMap placeC).length = l.length * 2 := flatMap_len (C := placeC) (fun _ => rfl) l
theorem OwnL.pb {w : World} {base top B n cap : Nat} {l : List (Int × Int)} (h : OwnL plT 2 placeC w base top (.slice (some ⟨B, 0, none⟩) n cap) l) : PB w B cap l ∧ base ≤ B ∧ B < top ∧ n = l.length ∧ l.length ≤ cap ∧ cap ≤ maxLen := by
  rcases h with ⟨h1, _⟩ | ⟨B', c, cur, h1, h2, h3, h4, h5, h6, h7, h8⟩
  · cases h1
  · cases h1
    exact ⟨⟨cur, cur.toList.drop (l.length * 2), h4, h7, by rw [← h8, List.take_append_drop]⟩, h2, h3, rfl, h5, h6⟩
theorem PB.own {w : World} {base top B cap : Nat} {l : List (Int × Int)} (h : PB w B cap l) (h2 : base ≤ B) (h3 : B < top) (h5 : l.length ≤ cap) (h6 : cap ≤ maxLen) (k : Nat) (hk : k ≤ l.length) : OwnL plT 2 placeC w base top (.slice (some ⟨B, 0, none⟩) k cap) (l.take k) := by
  obtain ⟨cur, rest, q1, q2, q3⟩ := h
  have hl : (l.take k).length = k := by rw [List.length_take]; omega
  refine .inr ⟨B, cap, cur, by rw [hl], h2, h3, q1, by rw [hl]; omega, h6, q2, ?_⟩
  rw [hl, q3]
  have e : l.flatMap placeC = (l.take k).flatMap placeC ++ (l.drop k).flatMap placeC := by rw [← List.flatMap_append, List.take_append_drop]
  rw [e, List.append_assoc, List.take_append_of_le_length (by rw [flat_len, hl]; omega), List.take_of_length_le (by rw [flat_len, hl]; omega)]
theorem PB.keep {W W' : World} {B cap : Nat} {l : List (Int × Int)} (h : PB W B cap l) (hb : W'.heap[B]? = W.heap[B]?) : PB W' B cap l := by
  obtain ⟨cur, rest, q1, q2⟩ := h
  exact ⟨cur, rest, hb.trans q1, q2⟩
theorem PB.lt {W : World} {B cap : Nat} {l : List (Int × Int)} (h : PB W B cap l) : B < W.heap.size := by
  obtain ⟨cur, rest, q1, q2⟩ := h
  exact (Array.getElem?_eq_some_iff.1 q1).1
theorem PB.range {W : World} {B cap : Nat} {l : List (Int × Int)} (h : PB W B cap l) {k : Nat} (hk : k < l.length) : W.rangeAt B (2 * k) (placeC (l.getD k (0, 0))) := fun j v hv => by
  obtain ⟨cur, rest, q1, q2, q3⟩ := h
  have hj : j < 2 := (List.getElem?_eq_some_iff.1 hv).1
  have hx : l[k]? = some (l.getD k (0, 0)) := by rw [List.getD_eq_getElem?_getD, List.getElem?_eq_getElem hk]; rfl
  have := flatMap_at (sz := 2) (C := placeC) (fun _ => rfl) l k j _ hx hj
  rw [cell_of_row _ _ _ _ _ _ q1, ← Array.getElem?_toList, q3, List.getElem?_append_left (by rw [flat_len]; omega), Nat.mul_comm 2 k, this]
  exact hv
theorem PB.there {W : World} {B cap : Nat} {l : List (Int × Int)} (h : PB W B cap l) {o n : Nat} (hk : o + n ≤ l.length * 2) : W.there B o n := fun j hj => by
  obtain ⟨cur, rest, q1, q2, q3⟩ := h
  have hs : l.length * 2 ≤ cur.size := by
    have := congrArg List.length q3
    rw [Array.length_toList, List.length_append, flat_len] at this
    omega
  refine ⟨?_, frozen_of_row _ _ _ _ _ q1⟩
  rw [cell_of_row _ _ _ _ _ _ q1, Array.getElem?_eq_getElem (by omega)]; rfl
theorem set_flat (p : Int × Int) : ∀ (l : List (Int × Int)) (i : Nat) (rest : List Value), i < l.length → (((l.flatMap placeC ++ rest).set (2 * i) (.int .i64 p.1)).set (2 * i + 1) (.int .i64 p.2)) = (l.set i p).flatMap placeC ++ rest
  | [], i, rest, h => by simp at h
  | x :: t, 0, rest, h => by simp [placeC]
  | x :: t, i + 1, rest, h => by
    have ih := set_flat p t i rest (by simpa using h)
    rw [List.set_cons_succ, List.flatMap_cons, List.flatMap_cons, List.append_assoc, List.append_assoc, ← ih]
    rw [show 2 * (i + 1) = 2 * i + 1 + 1 by omega]
    simp [placeC]
theorem PB.set {W : World} {B cap : Nat} {l : List (Int × Int)} (h : PB W B cap l) {i : Nat} (hi : i < l.length) (u c : Int) : PB (W.setCells B (2 * i) (placeC (u, c))) B cap (l.set i (u, c)) := by
  obtain ⟨cur, rest, q1, q2, q3⟩ := h
  have e1 := heap_setCell_same W B (2 * i) _ _ (.int .i64 u) q1
  have e2 := heap_setCell_same _ B (2 * i + 1) _ _ (.int .i64 c) e1
  refine ⟨_, rest, e2, by simp [q2], ?_⟩
  rw [Array.toList_setIfInBounds, Array.toList_setIfInBounds, q3]
  exact set_flat (u, c) l i rest hi
theorem setCells_row (B : Nat) : ∀ (vs : List Value) (o : Nat) (W : World) (cur : Array Value) (t : TypeId), W.heap[B]? = some (.cells cur t (0, 0)) → ∃ cur', (W.setCells B o vs).heap[B]? = some (.cells cur' t (0, 0)) ∧ cur'.size = cur.size ∧ cur'.toList.take o = cur.toList.take o
  | [], o, W, cur, t, h => ⟨cur, h, rfl, rfl⟩
  | v :: vs, o, W, cur, t, h => by
    have e1 := heap_setCell_same W B o _ _ v h
    obtain ⟨cur', h1, h2, h3⟩ := setCells_row B vs (o + 1) (W.setCell ⟨B, o, none⟩ v) _ t e1
    refine ⟨cur', h1, by rw [h2]; simp, ?_⟩
    have := congrArg (List.take o) h3
    rw [List.take_take, List.take_take, Nat.min_eq_left (by omega), Array.toList_setIfInBounds, List.take_set_of_le (by omega)] at this
    exact this
theorem PB.clear {W : World} {B cap k : Nat} {l : List (Int × Int)} (h : PB W B cap l) (hk : k ≤ l.length) (vs : List Value) : PB (W.setCells B (k * 2) vs) B cap (l.take k) := by
  obtain ⟨cur, rest, q1, q2, q3⟩ := h
  obtain ⟨cur', h1, h2, h3⟩ := setCells_row B vs (k * 2) W cur plT q1
  refine ⟨cur', cur'.toList.drop (k * 2), h1, h2.trans q2, ?_⟩
  have hl : (l.take k).length = k := by rw [List.length_take]; omega
  have e : l.flatMap placeC = (l.take k).flatMap placeC ++ (l.drop k).flatMap placeC := by rw [← List.flatMap_append, List.take_append_drop]
  have e2 : cur.toList.take (k * 2) = (l.take k).flatMap placeC := by
    rw [q3, e, List.append_assoc, List.take_append_of_le_length (by rw [flat_len, hl]; omega), List.take_of_length_le (by rw [flat_len, hl]; omega)]
  rw [← e2, ← h3, List.take_append_drop]
theorem zeros_one : ∀ n : Nat, ∀ v ∈ (Builtin.zeroCells (pk 0 0).cells n).toList, v.oneCell' = true := fun n v hv => by
  simp [Builtin.zeroCells, pk, Value.cells] at hv
  obtain ⟨i, hi, rfl⟩ := hv
  rcases Nat.mod_two_eq_zero_or_one i with e | e <;> simp [e, Value.oneCell']
theorem zeros_len (n : Nat) : (Builtin.zeroCells (pk 0 0).cells n).toList.length = 2 * n := by simp [Builtin.zeroCells, pk, Value.cells, Nat.mul_comm]
theorem run_clear_places (w : World) (ty : TypeId) (B o n c : Nat) (ht : w.there B o (2 * n)) : ∃ vs, (Builtin.clear_ #[plS] ty #[.slice (some ⟨B, o, none⟩) n c]).run Try.prog w = .ok (.tuple #[]) (w.setCells B o vs) := by
  rcases n with _ | m
  · exact ⟨[], by simp [Builtin.clear_, World.setCells]⟩
  · refine ⟨(Builtin.zeroCells (pk 0 0).cells (m + 1)).toList, ?_⟩
    have hst := run_storeCells_cells (P := Try.prog) B o (Builtin.zeroCells (pk 0 0).cells (m + 1)).toList 0 w (fun j hj => by
      rw [zeros_len] at hj
      have := (ht j hj).1
      simpa using this) (fun j hj => by
      rw [zeros_len] at hj
      have := (ht j hj).2
      simpa using this) (zeros_one _)
    simp only [Nat.add_zero] at hst
    unfold pk at hst
    simp [Builtin.clear_, hst, pk]
section
variable {ops : Array Oper} {rest : List Oper} {o : Oper} {a : Act} {w : World} {Q : Exit → Act → World → Prop}
/-- What is behind the first k places is made noughts. -/
theorem wpList_pl_clear (hgd : o.guard = none) (x : Operand) (ho : o.op = .call { callee := .builtin .clear, args := #[x], argTypes := #[plS] }) (B n cap k : Nat) (q : Option Addr) (hx : a.eval x = .slice q (n - k) (cap - k)) (hq : q = (if cap = k then some ⟨B, 0, none⟩ else (some ⟨B, 0, none⟩ : Option Addr).map (·.add (k * 2)))) (hk : k ≤ n) (hn : n ≤ cap) (l : List (Int × Int)) (hl : l.length = n) (hB : PB w B cap l)
    (h : ∀ w', PB w' B cap (l.take k) → Keeps (fun j => j = B) w w' → wpList Try.prog ops Q rest (a.put o.dst (.tuple #[])) w') : wpList Try.prog ops Q (o :: rest) a w :=
  wpList_plain hgd fun K hK => by
    subst hq
    have key : ∃ vs, (Builtin.clear_ #[plS] o.type #[.slice (if cap = k then some ⟨B, 0, none⟩ else (some ⟨B, 0, none⟩ : Option Addr).map (·.add (k * 2))) (n - k) (cap - k)]).run Try.prog w = .ok (.tuple #[]) (w.setCells B (k * 2) vs) := by
      split
      · rename_i e
        have e1 : n - k = 0 := by omega
        rw [e1]
        exact ⟨[], by simp [Builtin.clear_, World.setCells]⟩
      · rename_i e
        have := run_clear_places w o.type B (k * 2) (n - k) (cap - k) (hB.there (by omega))
        rw [Option.map_some, addr_add, Nat.zero_add]
        exact this
    generalize (Value.slice (if cap = k then some ⟨B, 0, none⟩ else (some ⟨B, 0, none⟩ : Option Addr).map (·.add (k * 2))) (n - k) (cap - k)) = V at hx key
    obtain ⟨vs, hr⟩ := key
    unfold Oper.wp
    simp [execOp, ho, resolve, invoke, builtin, hx, hr, Result.andThen]
    exact hK _ _ (h _ (hB.clear (by omega) vs) (keeps_setCells B vs _ w))
end
end Go.Proofs.Ytlaclakndleonaa

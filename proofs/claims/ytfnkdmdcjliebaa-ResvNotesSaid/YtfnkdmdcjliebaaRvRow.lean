/- Rows of registrations that are written over; operations of drawn regions on them. Conditions: as each says. -/
import Derived.Test.YtfnkdmdcjliebaaRvMore
namespace Go.Proofs.Ytfnkdmdcjliebaa
open Go.ChangeShapes Go.WideShapes Go.ChangeAt Go.RowKit
set_option linter.unusedVariables false
set_option linter.unusedSimpArgs false
/-- Block B holds room for cap registrations, the first of which are l's. -/
def PB (W : World) (B cap : Nat) (l : List (Int × Int)) : Prop := ∃ cur rest, W.heap[B]? = some (.cells cur rgT (0, 0)) ∧ cur.size = cap * 2 ∧ cur.toList = l.flatMap regC ++ rest
theorem flat_len (l : List (Int × Int)) : (l.flatMap regC).length = l.length * 2 := flatMap_len (C := regC) (fun _ => rfl) l
theorem OwnL.pb {w : World} {base top B n cap : Nat} {l : List (Int × Int)} (h : OwnL rgT 2 regC w base top (.slice (some ⟨B, 0, none⟩) n cap) l) : PB w B cap l ∧ base ≤ B ∧ B < top ∧ n = l.length ∧ l.length ≤ cap ∧ cap ≤ maxLen := by
  rcases h with ⟨h1, _⟩ | ⟨B', c, cur, h1, h2, h3, h4, h5, h6, h7, h8⟩
  · cases h1
  · cases h1
    exact ⟨⟨cur, cur.toList.drop (l.length * 2), h4, h7, by rw [← h8, List.take_append_drop]⟩, h2, h3, rfl, h5, h6⟩
theorem PB.own {w : World} {base top B cap : Nat} {l : List (Int × Int)} (h : PB w B cap l) (h2 : base ≤ B) (h3 : B < top) (h5 : l.length ≤ cap) (h6 : cap ≤ maxLen) (k : Nat) (hk : k ≤ l.length) : OwnL rgT 2 regC w base top (.slice (some ⟨B, 0, none⟩) k cap) (l.take k) := by
  obtain ⟨cur, rest, q1, q2, q3⟩ := h
  have hl : (l.take k).length = k := by rw [List.length_take]; omega
  refine .inr ⟨B, cap, cur, by rw [hl], h2, h3, q1, by rw [hl]; omega, h6, q2, ?_⟩
  rw [hl, q3]
  have e : l.flatMap regC = (l.take k).flatMap regC ++ (l.drop k).flatMap regC := by rw [← List.flatMap_append, List.take_append_drop]
  rw [e, List.append_assoc, List.take_append_of_le_length (by rw [flat_len, hl]; omega), List.take_of_length_le (by rw [flat_len, hl]; omega)]
theorem PB.keep {W W' : World} {B cap : Nat} {l : List (Int × Int)} (h : PB W B cap l) (hb : W'.heap[B]? = W.heap[B]?) : PB W' B cap l := by
  obtain ⟨cur, rest, q1, q2⟩ := h
  exact ⟨cur, rest, hb.trans q1, q2⟩
theorem PB.lt {W : World} {B cap : Nat} {l : List (Int × Int)} (h : PB W B cap l) : B < W.heap.size := by
  obtain ⟨cur, rest, q1, q2⟩ := h
  exact (Array.getElem?_eq_some_iff.1 q1).1
theorem PB.range {W : World} {B cap : Nat} {l : List (Int × Int)} (h : PB W B cap l) {k : Nat} (hk : k < l.length) : W.rangeAt B (2 * k) (regC (l.getD k (0, 0))) := fun j v hv => by
  obtain ⟨cur, rest, q1, q2, q3⟩ := h
  have hj : j < 2 := (List.getElem?_eq_some_iff.1 hv).1
  have hx : l[k]? = some (l.getD k (0, 0)) := by rw [List.getD_eq_getElem?_getD, List.getElem?_eq_getElem hk]; rfl
  have := flatMap_at (sz := 2) (C := regC) (fun _ => rfl) l k j _ hx hj
  rw [cell_of_row _ _ _ _ _ _ q1, ← Array.getElem?_toList, q3, List.getElem?_append_left (by rw [flat_len]; omega), Nat.mul_comm 2 k, this]
  exact hv
theorem PB.there {W : World} {B cap : Nat} {l : List (Int × Int)} (h : PB W B cap l) {o n : Nat} (hk : o + n ≤ l.length * 2) : W.there B o n := fun j hj => by
  obtain ⟨cur, rest, q1, q2, q3⟩ := h
  have hs : l.length * 2 ≤ cur.size := by
    have := congrArg List.length q3
    rw [Array.length_toList, List.length_append, flat_len] at this
    omega
  refine ⟨?_, frozen_of_row _ _ _ _ _ q1⟩
  rw [cell_of_row _ _ _ _ _ _ q1, Array.getElem?_eq_getElem (by omega)]; rfl
theorem set_flat (p : Int × Int) : ∀ (l : List (Int × Int)) (i : Nat) (rest : List Value), i < l.length → (((l.flatMap regC ++ rest).set (2 * i) (.int .i64 p.1)).set (2 * i + 1) (.int .i64 p.2)) = (l.set i p).flatMap regC ++ rest
  | [], i, rest, h => by simp at h
  | x :: t, 0, rest, h => by simp [regC]
  | x :: t, i + 1, rest, h => by
    have ih := set_flat p t i rest (by simpa using h)
    rw [List.set_cons_succ, List.flatMap_cons, List.flatMap_cons, List.append_assoc, List.append_assoc, ← ih]
    rw [show 2 * (i + 1) = 2 * i + 1 + 1 by omega]
    simp [regC]
theorem PB.set {W : World} {B cap : Nat} {l : List (Int × Int)} (h : PB W B cap l) {i : Nat} (hi : i < l.length) (u c : Int) : PB (W.setCells B (2 * i) (regC (u, c))) B cap (l.set i (u, c)) := by
  obtain ⟨cur, rest, q1, q2, q3⟩ := h
  have e1 := heap_setCell_same W B (2 * i) _ _ (.int .i64 u) q1
  have e2 := heap_setCell_same _ B (2 * i + 1) _ _ (.int .i64 c) e1
  refine ⟨_, rest, e2, by simp [q2], ?_⟩
  rw [Array.toList_setIfInBounds, Array.toList_setIfInBounds, q3]
  exact set_flat (u, c) l i rest hi
theorem size_setCells (B : Nat) : ∀ (vs : List Value) (o : Nat) (w : World), (w.setCells B o vs).heap.size = w.heap.size
  | [], _, _ => rfl
  | v :: r, o, w => by
    have h := size_setCells B r (o + 1) (w.setCell ⟨B, o, none⟩ v)
    rw [World.setCells, h]; simp [World.setCell]
theorem keeps_setCells (B : Nat) : ∀ (vs : List Value) (o : Nat) (w : World), Keeps (fun j => j = B) w (w.setCells B o vs)
  | [], _, w => Keeps.refl _ w
  | v :: r, o, w => by
    have h := keeps_setCells B r (o + 1) (w.setCell ⟨B, o, none⟩ v)
    have h0 := (Keeps.refl (fun j => j = B) w).setCell rfl o v
    rw [World.setCells]
    exact h0.trans h
section
variable {o : Oper} {a : Act} {w : World} {C : World → Prop} {K : Act → Prop}
theorem gives_reg_load (x : Operand) (ho : o.op = .load rgT x) (B off : Nat) (hx : a.eval x = .pointer (some ⟨B, off, none⟩)) (u c : Int) (hc : ∀ w, C w → w.rangeAt B off (regC (u, c))) (hk : K (a.put o.dst (.agg #[.int .i64 u, .int .i64 c]))) : ∃ v, Gives Try.prog C o a v ∧ K (a.put o.dst v) :=
  ⟨_, fun w hw => by
    unfold execOp
    simp only [ho, hx, Instr.loadAt, Instr.sureAddr, Sem.run_bind, Sem.run_pure, Result.andThen_ok, run_loadVar_mid w B off rgT (regC (u, c)) _ (hc w hw) Try.underlying39 rfl regSize]
    rfl, hk⟩
theorem done_reg_put {K : Value → World → Prop} (x y : Operand) (ho : o.op = .store rgT x y) (B cap k : Nat) (l : List (Int × Int)) (u c : Int) (hx : a.eval x = .pointer (some ⟨B, 2 * k, none⟩)) (hy : a.eval y = .agg #[.int .i64 u, .int .i64 c]) (hB : PB w B cap l) (hk : k < l.length)
    (h : ∀ w', PB w' B cap (l.set k (u, c)) → Keeps (fun j => j = B) w w' → w'.heap.size = w.heap.size → K undef w') : doneAt Try.prog o a w K := by
  have hh := h _ (hB.set hk u c) (keeps_setCells B _ _ w) (size_setCells B _ _ w)
  unfold doneAt execOp
  simp only [ho, hx, hy, Instr.storeAt, Instr.sureAddr, Sem.run_bind, Sem.run_pure, Result.andThen_ok, run_storeVar_mid w B (2 * k) rgT #[.int .i64 u, .int .i64 c] (hB.there (by show 2 * k + 2 ≤ _; omega)) regSize (by simp [Value.oneCell'])]
  exact hh
end
end Go.Proofs.Ytfnkdmdcjliebaa

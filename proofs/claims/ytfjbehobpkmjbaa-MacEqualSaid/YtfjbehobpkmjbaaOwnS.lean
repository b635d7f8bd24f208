/- Slices of arrays of bytes that grow by append: where they lie, what they hold, and what an append leaves. Condition: at most 1000 elements. -/
import Derived.Test.YtfjbehobpkmjbaaPart
import Derived.Laws.AppendOwn
import Derived.Great.BuildSlice
namespace Go.Proofs.Ytfjbehobpkmjbaa
open Go Go.RowKit

def bytesList (n : Nat) (F : Nat → Nat) : List Value := (List.range n).map fun t => Value.int .u8 (F t : Nat)
theorem bytesList_len (n : Nat) (F : Nat → Nat) : (bytesList n F).length = n := by simp [bytesList]
theorem bytesList_get {n : Nat} {F : Nat → Nat} {j : Nat} {u : Value} (h : (bytesList n F)[j]? = some u) : j < n ∧ u = .int .u8 (F j : Nat) := by
  have hj : j < n := by
    rcases Nat.lt_or_ge j (bytesList n F).length with h' | h'
    · rwa [bytesList_len] at h'
    · rw [List.getElem?_eq_none h'] at h; cases h
  refine ⟨hj, ?_⟩
  simp [bytesList, hj] at h
  exact h.symm
theorem bytesList_at {n : Nat} {F : Nat → Nat} {j : Nat} (h : j < n) : (bytesList n F)[j]? = some (.int .u8 (F j : Nat)) := by simp [bytesList, h]
theorem bytesList_one {n : Nat} {F : Nat → Nat} : ∀ u ∈ bytesList n F, u.oneCell' = true := fun u hu => by
  obtain ⟨j, hj⟩ := List.getElem?_of_mem hu
  obtain ⟨_, rfl⟩ := bytesList_get hj
  rfl
theorem bytesList_more (n m : Nat) (F f : Nat → Nat) (h : ∀ j, j < m → f j = F (n + j)) : bytesList n F ++ bytesList m f = bytesList (n + m) F := by
  apply List.ext_getElem?
  intro i
  rcases Nat.lt_or_ge i n with l | l
  · rw [List.getElem?_append_left (by rw [bytesList_len]; exact l), bytesList_at l, bytesList_at (by omega)]
  · rw [List.getElem?_append_right (by rw [bytesList_len]; exact l), bytesList_len]
    rcases Nat.lt_or_ge i (n + m) with l2 | l2
    · rw [bytesList_at (by omega), bytesList_at l2, h _ (by omega), show n + (i - n) = i by omega]
    · rw [List.getElem?_eq_none (by rw [bytesList_len]; omega), List.getElem?_eq_none (by rw [bytesList_len]; omega)]

/-- A slice of k elements, each of sz bytes, in a block between base and top; nil, if there is none. -/
def OwnS (e : TypeId) (sz : Nat) (w : World) (base top : Nat) (v : Value) (k : Nat) (F : Nat → Nat) : Prop :=
  (v = .slice none 0 0 ∧ k = 0) ∨ ∃ B c cur, v = .slice (some ⟨B, 0, none⟩) k c ∧ base ≤ B ∧ B < top ∧ w.heap[B]? = some (.cells cur e (0, 0)) ∧ k ≤ c ∧ c ≤ maxLen ∧ cur.size = c * sz ∧ cur.toList.take (k * sz) = bytesList (k * sz) F
section
variable {e : TypeId} {sz base top : Nat} {v : Value} {k : Nat} {F : Nat → Nat} {w w' : World}
theorem OwnS.nil (e : TypeId) (sz : Nat) (w : World) (base top : Nat) (F : Nat → Nat) : OwnS e sz w base top (.slice none 0 0) 0 F := .inl ⟨rfl, rfl⟩
theorem OwnS.same (h : OwnS e sz w base top v k F) (hb : ∀ B, base ≤ B → B < top → w'.heap[B]? = w.heap[B]?) : OwnS e sz w' base top v k F := by
  rcases h with h | ⟨B, c, cur, h1, h2, h3, h4, h5⟩
  · exact .inl h
  · exact .inr ⟨B, c, cur, h1, h2, h3, by rw [hb B h2 h3]; exact h4, h5⟩
theorem OwnS.raise {top' : Nat} (h : OwnS e sz w base top v k F) (ht : top ≤ top') : OwnS e sz w base top' v k F := by
  rcases h with h | ⟨B, c, cur, h1, h2, h3, h4, h5⟩
  · exact .inl h
  · exact .inr ⟨B, c, cur, h1, h2, by omega, h4, h5⟩
theorem OwnS.owns (h : OwnS e sz w base top v k F) : w.ownsRow base e sz v k (bytesList (k * sz) F) := by
  rcases h with ⟨h1, h2⟩ | ⟨B, c, cur, h1, h2, _, h4, h5, h6, h7, h8⟩
  · subst h2; exact ⟨by rw [bytesList_len], .inl ⟨h1, rfl⟩⟩
  · exact ⟨by rw [bytesList_len], .inr ⟨B, c, cur, h1, h2, h4, h5, h6, h7, h8⟩⟩
theorem OwnS.of_owns (h : w.ownsRow base e sz v k (bytesList (k * sz) F)) : OwnS e sz w base w.heap.size v k F := by
  obtain ⟨_, h1 | ⟨B, c, cur, h1, h2, h4, h5⟩⟩ := h
  · exact .inl h1
  · exact .inr ⟨B, c, cur, h1, h2, (Array.getElem?_eq_some_iff.1 h4).1, h4, h5⟩
theorem OwnS.cells (h : OwnS e sz w base top v k F) (hk : k ≠ 0) : ∃ B c, v = .slice (some ⟨B, 0, none⟩) k c ∧ base ≤ B ∧ B < top ∧ Cells w B 0 (k * sz) F := by
  rcases h with ⟨_, h0⟩ | ⟨B, c, cur, h1, h2, h3, h4, _, _, _, h8⟩
  · exact absurd h0 hk
  · refine ⟨B, c, h1, h2, h3, fun j hj => ?_⟩
    rw [Nat.zero_add, cell_of_row w B j cur _ (0, 0) h4]
    have := bytesList_at (n := k * sz) (F := F) hj
    rw [← h8, List.getElem?_take_of_lt hj] at this
    simpa using this
theorem OwnS.block (h : OwnS e sz w base top v k F) : ∀ B, v.ownBlock = some B → base ≤ B := by
  rcases h with ⟨h1, _⟩ | ⟨B, c, cur, h1, h2, _⟩
  · subst h1; intro B hB; simp [Value.ownBlock] at hB
  · subst h1; intro B' hB; simp [Value.ownBlock] at hB; omega
theorem below_own {row : Option Nat} (h : w.grownBy w' row) (hr : ∀ B, row = some B → base ≤ B) (hb : base ≤ w.heap.size) : Below base w w' :=
  ⟨h.os, h.tape, h.output, h.size, fun i hi => h.block i (by omega) (fun e => by have := hr i e.symm; omega)⟩
end
theorem wpList_append_one {P : Program} {ops : Array Oper} {rest : List Oper} {o : Oper} {a : Act} {w : World} {Q : Exit → Act → World → Prop} (hgd : o.guard = none) (s x : Operand) (t e : TypeId) (sz : Nat) (hs0 : 0 < sz) (hs1 : sz ≤ 16)
    (ho : o.op = .call { callee := .builtin .append, args := #[s, x], argTypes := #[t, t] }) (hu : P.underlying t = some (.slice e)) (hi : (P.info? e).map (·.size) = some sz) (hb : (P.info? e).map (·.bytes) = some sz)
    (hz : (P.info? e).bind (·.zero) = some (.agg (cellsOf .u8 (mk sz zeroK)))) (base top k c : Nat) (v : Value) (F f : Nat → Nat) (D : Nat) (hs : a.eval s = v) (hx : a.eval x = .slice (some ⟨D, 0, none⟩) 1 c)
    (hv : OwnS e sz w base top v k F) (hc : Cells w D 0 sz f) (hf : ∀ j, j < sz → f j = F (k * sz + j)) (hk : k ≤ 1000) (hbase : base ≤ w.heap.size)
    (h : ∀ v' w', OwnS e sz w' base w'.heap.size v' (k + 1) F → Below base w w' → wpList P ops Q rest (a.put o.dst v') w') : wpList P ops Q (o :: rest) a w := by
  cases hq : P.info? e with
  | none => rw [hq] at hi; simp at hi
  | some i =>
    rw [hq] at hi hb hz
    have hsz : i.size = sz := by simpa using hi
    have hzz : i.zero = some (.agg (cellsOf .u8 (mk sz zeroK))) := by simpa using hz
    have hby : i.bytes = sz := by simpa using hb
    obtain ⟨v', w', hrun, r1, r2, _⟩ := run_append_own (P := P) w base t o.type e i (.agg (cellsOf .u8 (mk sz zeroK))) sz sz hu hq hzz hsz hby (by show (cellsOf .u8 (mk sz zeroK)).size = sz; rw [cellsOf_size, mk_len]) hs0
      v k (bytesList (k * sz) F) hv.owns ⟨D, 0, none⟩ 1 c (bytesList sz f) (by rw [bytesList_len, Nat.one_mul]) (fun j u hj => by
        obtain ⟨hj1, rfl⟩ := bytesList_get hj
        rw [addr_add]; exact hc j hj1) bytesList_one (by simp only [maxLen]; omega) (by
          have : (k + 1) * sz ≤ 1001 * 16 := Nat.mul_le_mul (by omega) hs1
          omega) hbase
    rw [bytesList_more (k * sz) sz F f hf, ← Nat.succ_mul] at r1
    refine wpList_plain hgd fun K hK => ?_
    unfold Oper.wp
    simp [execOp, ho, resolve, invoke, builtin, hs, hx, hrun, Result.andThen]
    exact hK _ _ (h v' w' (OwnS.of_owns r1) (below_own r2 hv.block hbase))
end Go.Proofs.Ytfjbehobpkmjbaa

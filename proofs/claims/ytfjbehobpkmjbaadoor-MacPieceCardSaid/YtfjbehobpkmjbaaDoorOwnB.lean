/- Slices of bytes that grow by append, whatever is behind them; bytes out of them. Condition: no more than 100000 bytes. -/
import Derived.Test.YtfjbehobpkmjbaaDoorOwnS
import Derived.Test.YtfjbehobpkmjbaaDoorMake
import Derived.ArgAppend
import Derived.Deep.Upon
namespace Go.Proofs.YtfjbehobpkmjbaaDoor
open Go.ChangeShapes Go.WideShapes Go.ChangeAt Go.RowKit

section
variable {base top : Nat} {v : Value} {k : Nat} {F : Nat → Nat} {w w' : World}
theorem OwnS.bytes (h : OwnS 5 1 w base top v k F) (ht : top ≤ w.heap.size) : ∃ p c, v = .slice p k c ∧ k ≤ c ∧ c ≤ maxLen ∧ BytesAt w p k F ∧ ∀ B o, p = some ⟨B, o, none⟩ → base ≤ B ∧ B < top := by
  rcases h with ⟨h1, h2⟩ | ⟨B, c, cur, h1, h2, h3, h4, h5, h6, h7, h8⟩
  · subst h2; exact ⟨none, 0, h1, Nat.le_refl _, Nat.zero_le _, .inl rfl, fun B o e => by cases e⟩
  · refine ⟨some ⟨B, 0, none⟩, c, h1, h5, h6, .inr ⟨B, 0, rfl, by omega, fun j hj => ?_⟩, fun B' o e => by simp only [Option.some.injEq, Addr.mk.injEq, and_true] at e; omega⟩
    rw [Nat.zero_add, cell_of_row w B j cur _ (0, 0) h4]
    have := bytesList_at (n := k * 1) (F := F) (j := j) (by omega)
    rw [← h8, List.getElem?_take_of_lt (by omega)] at this
    simpa using this
theorem OwnS.empty (w : World) (F : Nat → Nat) (base : Nat) (hb : base ≤ w.heap.size) : OwnS 5 1 (w.alloc (.cells (cellsOf .u8 []) 5)) base (w.heap.size + 1) (.slice (some ⟨w.heap.size, 0, none⟩) 0 0) 0 F :=
  .inr ⟨w.heap.size, 0, cellsOf .u8 [], rfl, hb, by omega, heap_alloc_new _ _, Nat.le_refl _, Nat.zero_le _, rfl, rfl⟩
theorem OwnS.one (w : World) (F : Nat → Nat) (base b : Nat) (hb : base ≤ w.heap.size) (hF : F 0 = b) : OwnS 5 1 (w.alloc (.cells (cellsOf .u8 [(b : Int)]) 5)) base (w.heap.size + 1) (.slice (some ⟨w.heap.size, 0, none⟩) 1 1) 1 F :=
  .inr ⟨w.heap.size, 1, cellsOf .u8 [(b : Int)], rfl, hb, by omega, heap_alloc_new _ _, Nat.le_refl _, by decide, rfl, by subst hF; rfl⟩
theorem OwnS.congr {F' : Nat → Nat} (h : OwnS 5 1 w base top v k F) (hf : ∀ j, j < k → F j = F' j) : OwnS 5 1 w base top v k F' := by
  rcases h with h | ⟨B, c, cur, h1, h2, h3, h4, h5, h6, h7, h8⟩
  · exact .inl h
  · refine .inr ⟨B, c, cur, h1, h2, h3, h4, h5, h6, h7, ?_⟩
    rw [h8]; unfold bytesList
    exact List.map_congr_left fun t ht => by rw [hf t (by have := List.mem_range.1 ht; omega)]
end
theorem wpList_append_own_bytes {ops : Array Oper} {rest : List Oper} {o : Oper} {a : Act} {w : World} {Q : Exit → Act → World → Prop} (hgd : o.guard = none) (s x : Operand)
    (ho : o.op = .call { callee := .builtin .append, args := #[s, x], argTypes := #[22, 22] }) (base top k : Nat) (v : Value) (F f : Nat → Nat) (p : Option Addr) (n cap : Nat) (hs : a.eval s = v) (hx : a.eval x = .slice p n cap)
    (hv : OwnS 5 1 w base top v k F) (hp : BytesAt w p n f) (hf : ∀ j, j < n → f j = F (k + j)) (hk : k + n ≤ 100000) (hbase : base ≤ w.heap.size)
    (h : ∀ v' w', OwnS 5 1 w' base w'.heap.size v' (k + n) F → Below base w w' → wpList Tryd.prog ops Q rest (a.put o.dst v') w') : wpList Tryd.prog ops Q (o :: rest) a w := by
  have hi := byteInfo
  have hz := byteZero1
  have hb := byteBytes1
  cases hq : Tryd.prog.info? 5 with
  | none => rw [hq] at hi; simp at hi
  | some i =>
    rw [hq] at hi hb hz
    have hsz : i.size = 1 := by simpa using hi
    have hzz : i.zero = some (.int .u8 0) := by simpa using hz
    have hby : i.bytes = 1 := by simpa using hb
    by_cases h0 : n = 0
    · subst h0
      have hsrc : Src Tryd.prog i.size 22 (.slice p 0 cap) 0 [] w := by
        cases p with
        | none => exact Src.ofNil w bytesUnder cap
        | some ad => exact Src.ofSlice w bytesUnder ad 0 cap [] (by simp) (fun j u hu => by simp at hu) (fun u hu => by cases hu)
      refine wpList_plain hgd fun K hK => ?_
      obtain ⟨q, c, rfl, hc⟩ : ∃ q c, v = .slice q k c ∧ k ≤ c := by
        rcases hv with ⟨h1, h2⟩ | ⟨B, c, cur, h1, _, _, _, h5, _⟩
        · subst h2; exact ⟨none, 0, h1, Nat.le_refl _⟩
        · exact ⟨_, c, h1, h5⟩
      have hrun := run_append_nothing (P := Tryd.prog) w 22 22 o.type 5 i bytesUnder hq q k c hc (.slice p 0 cap) hsrc
      unfold Oper.wp
      simp [execOp, ho, resolve, invoke, builtin, hs, hx, hrun, Result.andThen]
      exact hK _ _ (h _ w (OwnS.of_owns hv.owns) (Below.refl _ _))
    · rcases hp with hp | ⟨B, off, rfl, hB, hc⟩
      · exact absurd hp h0
      · obtain ⟨v', w', hrun, r1, r2, _⟩ := run_append_own (P := Tryd.prog) w base 22 o.type 5 i (.int .u8 0) 1 1 bytesUnder hq hzz hsz hby rfl (by omega)
          v k (bytesList (k * 1) F) hv.owns ⟨B, off, none⟩ n cap (bytesList n f) (by rw [bytesList_len, Nat.mul_one]) (fun j u hj => by
            obtain ⟨hj1, rfl⟩ := bytesList_get hj
            rw [addr_add]; exact hc j hj1) bytesList_one (by simp only [maxLen]; omega) (by omega) hbase
        rw [bytesList_more (k * 1) n F f (fun j hj => by rw [Nat.mul_one]; exact hf j hj), show k * 1 + n = (k + n) * 1 by omega] at r1
        refine wpList_plain hgd fun K hK => ?_
        unfold Oper.wp
        simp [execOp, ho, resolve, invoke, builtin, hs, hx, hrun, Result.andThen]
        exact hK _ _ (h v' w' (OwnS.of_owns r1) (below_own r2 hv.block hbase))
end Go.Proofs.YtfjbehobpkmjbaaDoor

/- Round keys appended to an empty slice: a slice of the same keys. Condition: there are at most 1000. -/
import Derived.Test.YtilfjmpoiiepkaaEncC
import Derived.Test.YtilfjmpoiiepkaaGives
import Derived.ArgAppend
import Derived.Deep.Upon
namespace Go.Proofs.Ytilfjmpoiiepkaa
open Go.ChangeShapes Go.WideShapes Go.ChangeAt Go.RowKit

/-- The cells of n keys. -/
def keysList (n : Nat) (R : Nat → Nat → Nat) : List Value := (List.range (n * 16)).map fun t => Value.int .u8 (R (t / 16) (t % 16) : Nat)
theorem keysList_len (n : Nat) (R : Nat → Nat → Nat) : (keysList n R).length = n * 16 := by simp [keysList]
theorem keysList_get {n : Nat} {R : Nat → Nat → Nat} {j : Nat} {u : Value} (h : (keysList n R)[j]? = some u) : j < n * 16 ∧ u = .int .u8 (R (j / 16) (j % 16) : Nat) := by
  have hj : j < (keysList n R).length := by
    rcases Nat.lt_or_ge j (keysList n R).length with h' | h'
    · exact h'
    · rw [List.getElem?_eq_none h'] at h; cases h
  rw [keysList_len] at hj
  refine ⟨hj, ?_⟩
  simp [keysList, hj] at h
  exact h.symm
theorem keysList_at {n : Nat} {R : Nat → Nat → Nat} {i j : Nat} (hi : i < n) (hj : j < 16) : (keysList n R)[i * 16 + j]? = some (.int .u8 (R i j : Nat)) := by
  have h : i * 16 + j < n * 16 := by omega
  have e : (i * 16 + j) / 16 = i := by omega
  simp [keysList, h, e, Nat.mod_eq_of_lt hj]
theorem below_grown {w w' : World} (h : w.grownBy w' none) : Below w.heap.size w w' := ⟨h.os, h.tape, h.output, h.size, fun k hk => h.block k hk (by simp)⟩
theorem keysAt_owns {w' : World} {base n : Nat} {R : Nat → Nat → Nat} {v : Value} (hn : n ≠ 0) (h : w'.ownsRow base 23 16 v n (keysList n R)) : ∃ g c, v = .slice (some ⟨g, 0, none⟩) n c ∧ KeysAt w' (some ⟨g, 0, none⟩) n R := by
  obtain ⟨_, ⟨_, h0⟩ | ⟨g, c, cur, rfl, _, hg, hnc, _, hsz, ht⟩⟩ := h
  · exact absurd h0 hn
  · refine ⟨g, c, rfl, .inr ⟨g, 0, rfl, (Array.getElem?_eq_some_iff.1 hg).1, fun i hi j hj => ?_⟩⟩
    rw [cell_of_row w' g _ cur _ (0, 0) hg]
    have := keysList_at (n := n) (R := R) hi hj
    rw [← ht, List.getElem?_take_of_lt (by omega)] at this
    simpa using this
theorem keyBytes : (Try.prog.info? 23).map (·.bytes) = some 16 := by kernel_rfl

theorem wpList_append_keys {ops : Array Oper} {rest : List Oper} {o : Oper} {a : Act} {w : World} {Q : Exit → Act → World → Prop} (hgd : o.guard = none) (s x : Operand)
    (ho : o.op = .call { callee := .builtin .append, args := #[s, x], argTypes := #[31, 31] }) (g : Addr) (hs : a.eval s = .slice (some g) 0 0) (p : Option Addr) (n cap : Nat) (hx : a.eval x = .slice p n cap)
    (R : Nat → Nat → Nat) (hp : KeysAt w p n R) (hnil : p = none → n = 0) (hn : n ≤ 1000)
    (h : ∀ q c w', KeysAt w' q n R → Below w.heap.size w w' → wpList Try.prog ops Q rest (a.put o.dst (.slice q n c)) w') : wpList Try.prog ops Q (o :: rest) a w := by
  have hi := keyInfo1
  have hz := keyZero
  have hb := keyBytes
  cases hq : Try.prog.info? 23 with
  | none => rw [hq] at hi; simp at hi
  | some i =>
    rw [hq] at hi hz hb
    have hsz : i.size = 16 := by simpa using hi
    have hzz : i.zero = some (.agg (cellsOf .u8 (mk 16 zeroK))) := by simpa using hz
    have hby : i.bytes = 16 := by simpa using hb
    by_cases h0 : n = 0
    · subst h0
      have hsrc : Src Try.prog i.size 31 (.slice p 0 cap) 0 [] w := by
        cases p with
        | none => exact Src.ofNil w keysUnder1 cap
        | some ad => exact Src.ofSlice w keysUnder1 ad 0 cap [] (by simp) (fun j u hu => by simp at hu) (fun u hu => by cases hu)
      refine wpList_plain hgd fun K hK => ?_
      have hrun := run_append_nothing (P := Try.prog) w 31 31 o.type 23 i keysUnder1 hq (some g) 0 0 (Nat.le_refl _) (.slice p 0 cap) hsrc
      unfold Oper.wp
      simp [execOp, ho, resolve, invoke, builtin, hs, hx, hrun, Result.andThen]
      exact hK _ _ (h (some g) 0 w (.inl rfl) (Below.refl _ _))
    · rcases hp with hp | ⟨B, off, rfl, hB, hc⟩
      · exact absurd hp h0
      refine wpList_append_grows w hgd s x 31 ho 23 i (.agg (cellsOf .u8 (mk 16 zeroK))) 16 16 keysUnder1 hq hzz hsz hby (by show (cellsOf .u8 (mk 16 zeroK)).size = 16; rw [cellsOf_size, mk_len]) (by omega)
        (some g) 0 0 [] hs (fun e => by cases e) (by simp) (fun b _ j u hu => by simp at hu) ⟨B, off, none⟩ n cap (keysList n R) hx (keysList_len n R) (fun j u hu => ?_) (fun u hu => ?_) (by omega) (by simp only [maxLen]; omega) (by omega) (fun v' w' hown hgr => ?_)
      · obtain ⟨hj, rfl⟩ := keysList_get hu
        rw [addr_add]
        have := hc (j / 16) (by omega) (j % 16) (by omega)
        rw [show off + j = off + j / 16 * 16 + j % 16 by omega]; exact this
      · obtain ⟨j, hj⟩ := List.getElem?_of_mem hu
        obtain ⟨_, rfl⟩ := keysList_get hj
        rfl
      · rw [Nat.zero_add, List.nil_append] at hown
        obtain ⟨g', c, rfl, hk⟩ := keysAt_owns h0 hown
        exact h _ _ _ hk (below_grown hgr)
theorem run_keys0 (w : World) : (Instr.buildSlice 31 0 #[]).run Try.prog w = .ok (.slice (some ⟨w.heap.size, 0, none⟩) 0 0) (w.alloc (.cells #[] 23)) := by
  have hi := keyInfo1
  cases hq : Try.prog.info? 23 with
  | none => rw [hq] at hi; simp at hi
  | some i => simp [Instr.buildSlice, run_underlying keysUnder1, sizeOf, typeInfo, hq, Instr.fill, newRow]; rw [show Array.map (fun _ => (default : Value)) (Array.range 0) = #[] from Array.eq_empty_of_size_eq_zero (by simp)]
theorem wpList_keys0 {ops : Array Oper} {rest : List Oper} {o : Oper} {a : Act} {w : World} {Q : Exit → Act → World → Prop} (hgd : o.guard = none) (ho : o.op = .buildSlice 31 0 #[])
    (h : wpList Try.prog ops Q rest (a.put o.dst (.slice (some ⟨w.heap.size, 0, none⟩) 0 0)) (w.alloc (.cells #[] 23))) : wpList Try.prog ops Q (o :: rest) a w :=
  wpList_plain hgd fun _ hK => by
    have e := run_keys0 w
    unfold Oper.wp execOp
    simp only [ho]
    simp [e]
    exact hK _ _ h
end Go.Proofs.Ytilfjmpoiiepkaa

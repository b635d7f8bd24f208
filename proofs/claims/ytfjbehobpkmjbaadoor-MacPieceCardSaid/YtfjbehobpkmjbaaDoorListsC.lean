/- Slices of slices of bytes: appended to, with what they hold said by a list; parts laid behind one another. Conditions: as each says. -/
import Derived.Test.YtfjbehobpkmjbaaDoorPieceK
import Derived.Test.YtfjbehobpkmjbaaDoorDone
import Derived.ArgAppend
import Derived.Deep.Upon
namespace Go.Proofs.YtfjbehobpkmjbaaDoor
open Go.ChangeShapes Go.WideShapes Go.ChangeAt Go.RowKit
set_option linter.unusedVariables false

theorem listsUnder : Tryd.prog.underlying 46 = some (.slice 22) := Tryd.underlying46
theorem listInfo : (Tryd.prog.info? 22).map (·.size) = some 1 := by kernel_rfl
theorem listBytes : (Tryd.prog.info? 22).map (·.bytes) = some 24 := by kernel_rfl
theorem listZero : (Tryd.prog.info? 22).bind (·.zero) = some (.slice none 0 0) := by kernel_rfl
/-- The slices of so many parts. -/
def partL (np : Nat) (P : Nat → Option Addr × Nat × Nat) : List Value := (List.range np).map fun i => .slice (P i).1 (P i).2.1 (P i).2.2
theorem partL_len (np : Nat) (P : Nat → Option Addr × Nat × Nat) : (partL np P).length = np := by simp [partL]
theorem partL_at {np : Nat} {P : Nat → Option Addr × Nat × Nat} {j : Nat} (h : j < np) : (partL np P)[j]? = some (.slice (P j).1 (P j).2.1 (P j).2.2) := by simp [partL, h]
theorem partL_get {np : Nat} {P : Nat → Option Addr × Nat × Nat} {j : Nat} {u : Value} (h : (partL np P)[j]? = some u) : j < np ∧ u = .slice (P j).1 (P j).2.1 (P j).2.2 := by
  have hj : j < np := by
    rcases Nat.lt_or_ge j (partL np P).length with h' | h'
    · rwa [partL_len] at h'
    · rw [List.getElem?_eq_none h'] at h; cases h
  refine ⟨hj, ?_⟩
  rw [partL_at hj] at h
  exact (Option.some.inj h).symm
theorem partL_one {np : Nat} {P : Nat → Option Addr × Nat × Nat} : ∀ u ∈ partL np P, u.oneCell' = true := fun u hu => by
  obtain ⟨j, hj⟩ := List.getElem?_of_mem hu
  obtain ⟨_, rfl⟩ := partL_get hj
  rfl
theorem wpList_append_lists {ops : Array Oper} {rest : List Oper} {o : Oper} {a : Act} {w : World} {Q : Exit → Act → World → Prop} (hgd : o.guard = none) (s x : Operand)
    (ho : o.op = .call { callee := .builtin .append, args := #[s, x], argTypes := #[46, 46] }) (base k : Nat) (v : Value) (xs : List Value) (hs : a.eval s = v) (hv : w.ownsRow base 22 1 v k xs)
    (q : Option Addr) (np cp : Nat) (P : Nat → Option Addr × Nat × Nat) (hx : a.eval x = .slice q np cp) (hP : PartsAt w q np P) (hk : k + np ≤ 100000) (hbase : base ≤ w.heap.size)
    (h : ∀ v' w', w'.ownsRow base 22 1 v' (k + np) (xs ++ partL np P) → Below base w w' → wpList Tryd.prog ops Q rest (a.put o.dst v') w') : wpList Tryd.prog ops Q (o :: rest) a w := by
  have hi := listInfo
  have hz := listZero
  have hb := listBytes
  cases hq : Tryd.prog.info? 22 with
  | none => rw [hq] at hi; simp at hi
  | some i =>
    rw [hq] at hi hb hz
    have hsz : i.size = 1 := by simpa using hi
    have hzz : i.zero = some (.slice none 0 0) := by simpa using hz
    have hby : i.bytes = 24 := by simpa using hb
    by_cases h0 : np = 0
    · subst h0
      have hsrc : Src Tryd.prog i.size 46 (.slice q 0 cp) 0 [] w := by
        cases q with
        | none => exact Src.ofNil w listsUnder cp
        | some ad => exact Src.ofSlice w listsUnder ad 0 cp [] (by simp) (fun j u hu => by simp at hu) (fun u hu => by cases hu)
      refine wpList_plain hgd fun K hK => ?_
      obtain ⟨q', c, rfl, hc⟩ : ∃ q' c, v = .slice q' k c ∧ k ≤ c := by
        obtain ⟨hl, ⟨h1, h2⟩ | ⟨B, c, cur, h1, _, _, h5, _⟩⟩ := hv
        · subst h2; exact ⟨none, 0, h1, Nat.le_refl _⟩
        · exact ⟨_, c, h1, h5⟩
      have hrun := run_append_nothing (P := Tryd.prog) w 46 46 o.type 22 i listsUnder hq q' k c hc (.slice q 0 cp) hsrc
      unfold Oper.wp
      simp [execOp, ho, resolve, invoke, builtin, hs, hx, hrun, Result.andThen]
      refine hK _ _ (h _ w ?_ (Below.refl _ _))
      have e : xs ++ partL 0 P = xs := List.append_nil _
      rw [e]; exact hv
    · rcases hP with hP | ⟨B, off, rfl, hc⟩
      · exact absurd hP h0
      · obtain ⟨v', w', hrun, r1, r2, _⟩ := run_append_own (P := Tryd.prog) w base 46 o.type 22 i (.slice none 0 0) 1 24 listsUnder hq hzz hsz hby rfl (by omega)
          v k xs hv ⟨B, off, none⟩ np cp (partL np P) (by rw [partL_len, Nat.mul_one]) (fun j u hj => by
            obtain ⟨hj1, rfl⟩ := partL_get hj
            rw [addr_add]; exact hc j hj1) partL_one (by simp only [maxLen]; omega) (by omega) hbase
        refine wpList_plain hgd fun K hK => ?_
        unfold Oper.wp
        simp [execOp, ho, resolve, invoke, builtin, hs, hx, hrun, Result.andThen]
        exact hK _ _ (h v' w' r1 (below_own r2 (fun B hB => (hv.lt B hB).1) hbase))
/-- One part ahead of others. -/
def consP (x : Option Addr × Nat × Nat) (P : Nat → Option Addr × Nat × Nat) : Nat → Option Addr × Nat × Nat := fun i => if i = 0 then x else P (i - 1)
theorem consP_zero (x : Option Addr × Nat × Nat) (P : Nat → Option Addr × Nat × Nat) : consP x P 0 = x := rfl
theorem consP_succ (x : Option Addr × Nat × Nat) (P : Nat → Option Addr × Nat × Nat) (i : Nat) : consP x P (i + 1) = P i := by unfold consP; rw [if_neg (by omega), Nat.add_sub_cancel]
theorem consP_len (x : Option Addr × Nat × Nat) (P : Nat → Option Addr × Nat × Nat) : ∀ i, lenTo (consP x P) (i + 1) = x.2.1 + lenTo P i
  | 0 => by show 0 + x.2.1 = x.2.1 + 0; omega
  | i + 1 => by
    show lenTo (consP x P) (i + 1) + (consP x P (i + 1)).2.1 = x.2.1 + (lenTo P i + (P i).2.1)
    rw [consP_len x P i, consP_succ]; omega
/-- The parts of a row that begins with one part, and goes on with others. -/
theorem partsIn_cons {M : Nat} {w : World} {q : Option Addr} {np : Nat} {P : Nat → Option Addr × Nat × Nat} {g f : Nat → Nat} {p : Option Addr} {n c B : Nat} (h : PartsIn M w q np P g) (hB : B < M)
    (hr : ∀ i, i < np + 1 → w.cell? ⟨B, i, none⟩ = some (.slice (consP (p, n, c) P i).1 (consP (p, n, c) P i).2.1 (consP (p, n, c) P i).2.2)) (hp : n = 0 ∨ ∃ b o, p = some ⟨b, o, none⟩ ∧ b < M ∧ Cells w b o n f) :
    PartsIn M w (some ⟨B, 0, none⟩) (np + 1) (consP (p, n, c) P) (cat2 n f g) := by
  refine ⟨.inr ⟨B, 0, rfl, hB, fun i hi => by rw [Nat.zero_add]; exact hr i hi⟩, fun i hi => ?_⟩
  rcases i with _ | i
  · rcases hp with h | ⟨b, o, h1, h2, h3⟩
    · exact .inl h
    · refine .inr ⟨b, o, h1, h2, fun j hj => ?_⟩
      have hj' : j < n := hj
      show w.cell? _ = some (.int .u8 (cat2 n f g (0 + j) : Nat))
      rw [Nat.zero_add, cat2_low hj']; exact h3 j hj'
  · rw [consP_succ, consP_len]
    rcases h.2 i (by omega) with h | ⟨b, o, h1, h2, h3⟩
    · exact .inl h
    · refine .inr ⟨b, o, h1, h2, fun j hj => ?_⟩
      show w.cell? _ = some (.int .u8 (cat2 n f g (n + lenTo P i + j) : Nat))
      rw [Nat.add_assoc, cat2_high]; exact h3 j hj
theorem PartsIn.at {M : Nat} {w : World} {q : Option Addr} {np : Nat} {P : Nat → Option Addr × Nat × Nat} {g : Nat → Nat} (h : PartsIn M w q np P g) : PartsAt w q np P := by
  rcases h.1 with h | ⟨B, o, h1, _, h3⟩
  · exact .inl h
  · exact .inr ⟨B, o, h1, h3⟩
theorem partsIn_none (M : Nat) (w : World) (q : Option Addr) (P : Nat → Option Addr × Nat × Nat) (g : Nat → Nat) : PartsIn M w q 0 P g := ⟨.inl rfl, fun i hi => absurd hi (Nat.not_lt_zero _)⟩
/-- What a row of one cell holds, and what it holds once others are appended. -/
theorem owns_row_one (w : World) (base : Nat) (v : Value) (hb : base ≤ w.heap.size) : (w.alloc (.cells #[v] 22)).ownsRow base 22 1 (.slice (some ⟨w.heap.size, 0, none⟩) 1 1) 1 [v] :=
  ⟨rfl, .inr ⟨w.heap.size, 1, #[v], rfl, hb, heap_alloc_new _ _, Nat.le_refl _, by decide, rfl, rfl⟩⟩
theorem owns_row_cells {w : World} {base k : Nat} {v : Value} {xs : List Value} (h : w.ownsRow base 22 1 v k xs) (hk : k ≠ 0) : ∃ B c, v = .slice (some ⟨B, 0, none⟩) k c ∧ base ≤ B ∧ B < w.heap.size ∧ k ≤ c ∧ ∀ i u, xs[i]? = some u → w.cell? ⟨B, i, none⟩ = some u := by
  obtain ⟨hl, ⟨_, h0⟩ | ⟨B, c, cur, h1, h2, h3, h4, h5, h6, h7⟩⟩ := h
  · subst h0; exact absurd hl.symm (by simpa using hk.symm)
  · refine ⟨B, c, h1, h2, (Array.getElem?_eq_some_iff.1 h3).1, h4, fun i u hu => ?_⟩
    rw [cell_of_row w B i cur _ (0, 0) h3]
    rw [← h7, Nat.mul_one] at hu
    have hi : i < k := by
      rcases Nat.lt_or_ge i k with h | h
      · exact h
      · rw [List.getElem?_eq_none (by simp; omega)] at hu; cases hu
    rw [List.getElem?_take_of_lt hi] at hu
    simpa using hu
end Go.Proofs.YtfjbehobpkmjbaaDoor

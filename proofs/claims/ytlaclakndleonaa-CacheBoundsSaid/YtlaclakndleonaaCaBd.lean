/- What CacheBounds counts. Conditions: as each says. -/
import Derived.Test.YtlaclakndleonaaCaMapOp
import Derived.Test.YtlaclakndleonaaCaFr
namespace Go.Proofs.Ytlaclakndleonaa
open Go.ChangeShapes Go.WideShapes Go.ChangeAt Go.RowKit
set_option linter.unusedVariables false
theorem mem_out_or {ls : List LineOf} {i : Nat} {l : LineOf} (h : l ∈ ls) (hi : i < ls.length) : l ∈ outL ls i ∨ l = lineAt ls i := by
  obtain ⟨j, hj, rfl⟩ := List.getElem_of_mem h
  by_cases e : j = i
  · subst e; exact .inr (lineAt_eq hj).symm
  · refine .inl ?_
    unfold outL
    exact List.mem_eraseIdx_iff_getElem.2 ⟨j, hj, e, rfl⟩
theorem mem_dirty {ls : List LineOf} {l : LineOf} : l ∈ dirtyL ls ↔ l ∈ ls ∧ l.d = true := List.mem_filter
theorem get_holds {ls : List LineOf} {l : LineOf} (u b : Int) (h : l ∈ ls) : l ∈ getL ls u b := by
  unfold getL
  split
  · rename_i hf
    rcases mem_out_or h hf with e | e
    · exact List.mem_append.2 (.inl e)
    · exact List.mem_append.2 (.inr (by simp [e]))
  · exact h
theorem put_holds {q : Int} {ls : List LineOf} {l : LineOf} (n : LineOf) (h : l ∈ dirtyL ls) : ∃ x ∈ dirtyL (putS q ls n), x.is l.u l.b = true := by
  obtain ⟨h1, h2⟩ := mem_dirty.1 h
  have hself : l.is l.u l.b = true := by rw [LineOf.is_iff]; exact ⟨rfl, rfl⟩
  unfold putS
  by_cases hf : findL ls n.u n.b < ls.length
  · rw [if_pos hf]
    rcases mem_out_or h1 hf with e | e
    · exact ⟨l, mem_dirty.2 ⟨List.mem_append.2 (.inl e), h2⟩, hself⟩
    · have his := LineOf.is_iff.1 (idx_is (p := fun l => l.is n.u n.b) hf)
      refine ⟨_, mem_dirty.2 ⟨List.mem_append.2 (.inr (List.mem_singleton.2 rfl)), ?_⟩, ?_⟩
      · show (n.d || (lineAt ls (findL ls n.u n.b)).d) = true
        rw [← e, h2, Bool.or_true]
      · rw [LineOf.is_iff, e]
        exact ⟨his.1.symm, his.2.symm⟩
  · rw [if_neg hf]
    split
    · split
      · rename_i hc
        rcases mem_out_or h1 hc with e | e
        · exact ⟨l, mem_dirty.2 ⟨List.mem_append.2 (.inl e), h2⟩, hself⟩
        · have := idx_is (p := fun l => !l.d) hc
          rw [show (lineAt ls (List.findIdx (fun l => !l.d) ls)) = l from e.symm, h2] at this
          simp at this
      · exact ⟨l, h, hself⟩
    · exact ⟨l, mem_dirty.2 ⟨List.mem_append.2 (.inl h1), h2⟩, hself⟩
theorem count_one {u b : Int} : ∀ {ls : List LineOf}, ls.Pairwise (fun x y => ¬ (x.u = y.u ∧ x.b = y.b)) → (∃ x ∈ ls, x.is u b = true) → ls.countP (fun l => l.is u b) = 1
  | [], _, ⟨_, h, _⟩ => by simp at h
  | a :: l, hp, ⟨x, hx, hxs⟩ => by
    rw [List.pairwise_cons] at hp
    cases ha : a.is u b with
    | true =>
      rw [List.countP_cons_of_pos (by simpa using ha)]
      have : l.countP (fun l => l.is u b) = 0 := List.countP_eq_zero.2 fun y hy e => hp.1 y hy (by
        have e1 := LineOf.is_iff.1 ha
        have e2 := LineOf.is_iff.1 e
        exact ⟨e1.1.trans e2.1.symm, e1.2.trans e2.2.symm⟩)
      rw [this]
    | false =>
      rw [List.countP_cons_of_neg (by simp [ha])]
      refine count_one hp.2 ⟨x, ?_, hxs⟩
      rcases List.mem_cons.1 hx with e | e
      · rw [e, ha] at hxs; cases hxs
      · exact e
theorem count_dirty {q : Int} {ls : List LineOf} (g : GoodL q ls) {u b : Int} (h : ∃ x ∈ dirtyL ls, x.is u b = true) : (dirtyL ls).countP (fun l => l.is u b) = 1 := count_one (g.apart.filter _) h
theorem full_all {q : Int} {ls : List LineOf} (g : GoodL q ls) {l : LineOf} (h : putN q ls l = 7) : ((dirtyL ls).length : Int) = q := by
  unfold putN at h
  split at h
  · simp at h
  · split at h
    · split at h
      · simp at h
      · rename_i _ h2 h3
        have e : dirtyL ls = ls := List.filter_eq_self.2 fun x hx => by
          cases hd : x.d with
          | true => rfl
          | false => exact absurd (List.findIdx_lt_length_of_exists ⟨x, hx, by simp [hd]⟩) h3
        rw [e]
        have := g.few
        omega
    · simp at h
theorem take_all {q : Int} {ls : List LineOf} (g : GoodL q ls) : takeD (dirtyL ls) 99 = dirtyL ls := by
  unfold takeD
  rw [if_neg (by decide)]
  refine List.take_of_length_le ?_
  have := g.few
  have := g.high
  have := dirtyL_len ls
  show _ ≤ 99
  omega
/-- How often each block was among the first i. -/
def cntN (D : List LineOf) (i : Nat) (u c : Int) : Nat := (D.take i).countP (fun l => l.is u c)
def cntF (D : List LineOf) (i : Nat) (u c : Int) : Value := .int .i64 (cntN D i u c)
theorem cntF_is (D : List LineOf) (i : Nat) (u c : Int) : cntF D i u c = .int .i64 (cntN D i u c) := rfl
theorem cntF_zero (D : List LineOf) : cntF D 0 = fun _ _ => .int .i64 0 := by
  funext u c
  unfold cntF cntN
  simp
theorem cntN_le (D : List LineOf) (i : Nat) (u c : Int) : cntN D i u c ≤ D.length := Nat.le_trans List.countP_le_length (by rw [List.length_take]; omega)
theorem cntF_next {D : List LineOf} {i : Nat} (hi : i < D.length) : putF (cntF D i) (lineAt D i).u (lineAt D i).b (.int .i64 ((cntN D i (lineAt D i).u (lineAt D i).b + 1 : Nat) : Int)) = cntF D (i + 1) := by
  funext u c
  unfold putF
  have e : cntN D (i + 1) u c = cntN D i u c + if (lineAt D i).is u c then 1 else 0 := by
    unfold cntN
    rw [take_snoc hi, List.countP_append]
    simp [List.countP_cons]
  split
  · rename_i h
    obtain ⟨rfl, rfl⟩ := h
    have : (lineAt D i).is (lineAt D i).u (lineAt D i).b = true := by rw [LineOf.is_iff]; exact ⟨rfl, rfl⟩
    unfold cntF
    rw [e, this]; rfl
  · rename_i h
    have : (lineAt D i).is u c = false := by rw [LineOf.is_not]; exact fun e => h ⟨e.1.symm, e.2.symm⟩
    unfold cntF
    rw [e, this]; rfl
theorem cntF_one {D : List LineOf} {u c : Int} (h : D.countP (fun l => l.is u c) = 1) : cntF D D.length u c = .int .i64 1 := by
  unfold cntF cntN
  rw [List.take_length, h]; rfl
theorem intZero (W : World) : (zeroValue 3).run Try.prog W = .ok (.int .i64 0) W := by kernel_rfl
theorem gives_second {C : World → Prop} {K : Act → Prop} {o : Oper} {a : Act} (x : Operand) (ho : o.op = .extract x 1) (u v : Value) (hx : a.eval x = .tuple #[u, v]) (hk : K (a.put o.dst v)) : ∃ v, Gives Try.prog C o a v ∧ K (a.put o.dst v) :=
  ⟨_, fun w _ => by
    unfold execOp
    simp only [ho, hx]
    simp [go_sem], hk⟩
theorem done_map_look {K : Value → World → Prop} {o : Oper} {a : Act} {w : World} {t e : TypeId} {b n : Nat} {z : Value} {f : Int → Int → Value} (ht : Try.prog.underlying t = some (.map 55 e)) (hz : ∀ W : World, (zeroValue e).run Try.prog W = .ok z W) (x y : Operand) (ho : o.op = .lookup t x y false) (u c : Int) (hx : a.eval x = .map (some b)) (hy : a.eval y = pk u c) (hu : okI u) (hc : okI c) (hC : MapF w b n z f) (h : K (f u c) w) : doneAt Try.prog o a w K := by
  have e := hC.look ht (hz w) hu hc
  unfold doneAt execOp
  simp only [ho, hx, hy]
  rw [Sem.run_bind, e]
  exact h
end Go.Proofs.Ytlaclakndleonaa

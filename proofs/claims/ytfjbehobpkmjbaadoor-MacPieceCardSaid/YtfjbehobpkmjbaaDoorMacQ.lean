/- Laws for regions walked by one order, on pieces, sums and rows of slices; digests of parts that begin with one part. Conditions: as each says. -/
import Derived.Test.YtfjbehobpkmjbaaDoorListsC
namespace Go.Proofs.YtfjbehobpkmjbaaDoor
open Go.ChangeShapes Go.WideShapes Go.ChangeAt Go.RowKit
set_option linter.unusedVariables false

theorem done_store {o : Oper} {a : Act} {w : World} {K : Value → World → Prop} (ty : TypeId) (x y : Operand) (ho : o.op = .store ty x y) (g : Nat) (cells : Array Value) (hx : a.eval x = .pointer (some ⟨g, 0, none⟩)) (hy : a.eval y = .agg cells)
    (t : TypeId) (old : Array Value) (hg : w.heap[g]? = some (.cells old t (0, 0))) (hi : (Tryd.prog.info? ty).map (·.size) = some cells.size) (hold : old.size = cells.size) (h1 : cells.all (·.oneCell') = true) (h : K undef (w.setRow g cells)) : doneAt Tryd.prog o a w K := by
  unfold doneAt execOp
  simp only [ho, hx, hy, Instr.storeAt, Instr.sureAddr, Sem.run_bind, Sem.run_pure, Result.andThen_ok, run_storeVar_row w g t ty old cells hg hi hold h1]
  exact h
/-- A call of two arguments, whatever it leaves. -/
theorem done_two {o : Oper} {a : Act} {w : World} {K : Value → World → Prop} (x y z : Operand) (ts : Array TypeId) (ho : o.op = .call { callee := .value x, args := #[y, z], argTypes := ts }) (g : FuncId) (hx : a.eval x = .func (.func g) #[] #[])
    (u v : Value) (hy : a.eval y = u) (hz : a.eval z = v) (hf : ∀ (args : Array Value) (w : World), (callFunc g args).run Tryd.prog w = .ok (.enter g args) w)
    (hc : Calls Tryd.prog g #[u, v] w fun e w' => ∃ r, e = .returned r ∧ K r w') : doneAt Tryd.prog o a w K :=
  done_call x #[y, z] ts ho g #[u, v] hx (by simp only [List.map_toArray, List.map_cons, List.map_nil, hy, hz]) (hf _ w) hc
/-- A call of one argument, of three, whatever it leaves. -/
theorem done_one {o : Oper} {a : Act} {w : World} {K : Value → World → Prop} (x y : Operand) (ts : Array TypeId) (ho : o.op = .call { callee := .value x, args := #[y], argTypes := ts }) (g : FuncId) (hx : a.eval x = .func (.func g) #[] #[])
    (u : Value) (hy : a.eval y = u) (hf : ∀ (args : Array Value) (w : World), (callFunc g args).run Tryd.prog w = .ok (.enter g args) w)
    (hc : Calls Tryd.prog g #[u] w fun e w' => ∃ r, e = .returned r ∧ K r w') : doneAt Tryd.prog o a w K :=
  done_call x #[y] ts ho g #[u] hx (by simp only [List.map_toArray, List.map_cons, List.map_nil, hy]) (hf _ w) hc
theorem done_three {o : Oper} {a : Act} {w : World} {K : Value → World → Prop} (x y z t : Operand) (ts : Array TypeId) (ho : o.op = .call { callee := .value x, args := #[y, z, t], argTypes := ts }) (g : FuncId) (hx : a.eval x = .func (.func g) #[] #[])
    (u v s : Value) (hy : a.eval y = u) (hz : a.eval z = v) (ht : a.eval t = s) (hf : ∀ (args : Array Value) (w : World), (callFunc g args).run Tryd.prog w = .ok (.enter g args) w)
    (hc : Calls Tryd.prog g #[u, v, s] w fun e w' => ∃ r, e = .returned r ∧ K r w') : doneAt Tryd.prog o a w K :=
  done_call x #[y, z, t] ts ho g #[u, v, s] hx (by simp only [List.map_toArray, List.map_cons, List.map_nil, hy, hz, ht]) (hf _ w) hc
theorem run_slice2 (p q : Option Addr) (n m cp cq : Nat) (w : World) : (Instr.buildSlice 46 2 #[(0, .slice p n cp), (1, .slice q m cq)]).run Tryd.prog w = .ok (.slice (some ⟨w.heap.size, 0, none⟩) 2 2) (w.alloc (.cells #[.slice p n cp, .slice q m cq] 22)) := by
  simp [go_sem]
theorem done_slice2 {o : Oper} {a : Act} {w : World} {K : Value → World → Prop} (x y : Operand) (ho : o.op = .buildSlice 46 2 #[(0, x), (1, y)]) (p q : Option Addr) (n m cp cq : Nat) (hx : a.eval x = .slice p n cp) (hy : a.eval y = .slice q m cq)
    (h : K (.slice (some ⟨w.heap.size, 0, none⟩) 2 2) (w.alloc (.cells #[.slice p n cp, .slice q m cq] 22))) : doneAt Tryd.prog o a w K := by
  have e := run_slice2 p q n m cp cq w
  unfold doneAt execOp
  simp only [ho]
  simp [hx, hy, e]
  exact h
section
variable {o : Oper} {a : Act} {C : World → Prop} {K : Act → Prop}
theorem gives_wholeSum (x : Operand) (ho : o.op = .slice 30 x none none none) (B : Nat) (hx : a.eval x = .pointer (some ⟨B, 0, none⟩)) (hk : K (a.put o.dst (.slice (some ⟨B, 0, none⟩) 32 32))) : ∃ v, Gives Tryd.prog C o a v ∧ K (a.put o.dst v) :=
  ⟨.slice (some ⟨B, 0, none⟩) 32 32, fun w _ => by
    have hs := byteElem.run_size (P := Tryd.prog) w
    unfold execOp
    simp only [ho, hx]
    simp [go_sem, hs], hk⟩
theorem gives_whole (x : Operand) (ho : o.op = .slice 25 x none none none) (B : Nat) (hx : a.eval x = .pointer (some ⟨B, 0, none⟩)) (hk : K (a.put o.dst (.slice (some ⟨B, 0, none⟩) 64 64))) : ∃ v, Gives Tryd.prog C o a v ∧ K (a.put o.dst v) :=
  ⟨.slice (some ⟨B, 0, none⟩) 64 64, fun w _ => by
    have hs := byteElem.run_size (P := Tryd.prog) w
    unfold execOp
    simp only [ho, hx]
    simp [go_sem, hs], hk⟩
end
theorem two_cells (w : World) (x y : Value) (t : TypeId) : (w.alloc (.cells #[x, y] t)).cell? ⟨w.heap.size, 0, none⟩ = some x ∧ (w.alloc (.cells #[x, y] t)).cell? ⟨w.heap.size, 1, none⟩ = some y := by
  have h := heap_alloc_new w (.cells #[x, y] t)
  refine ⟨?_, ?_⟩
  · rw [cell_of_row _ _ 0 #[x, y] t (0, 0) h]; rfl
  · rw [cell_of_row _ _ 1 #[x, y] t (0, 0) h]; rfl
theorem PartsIn.raise {M M' : Nat} {w : World} {q : Option Addr} {np : Nat} {P : Nat → Option Addr × Nat × Nat} {g : Nat → Nat} (h : PartsIn M w q np P g) (hM : M ≤ M') : PartsIn M' w q np P g := by
  refine ⟨?_, fun i hi => ?_⟩
  · rcases h.1 with h | ⟨B, o, h1, h2, h3⟩
    · exact .inl h
    · exact .inr ⟨B, o, h1, by omega, h3⟩
  · rcases h.2 i hi with h | ⟨B, o, h1, h2, h3⟩
    · exact .inl h
    · exact .inr ⟨B, o, h1, by omega, h3⟩
/-- The parts of a row of two. -/
theorem partsIn_two {M : Nat} {w : World} {B c m cq : Nat} {p q : Option Addr} {n : Nat} {f g : Nat → Nat} (hB : B < M) (h0 : w.cell? ⟨B, 0, none⟩ = some (.slice p n c)) (h1 : w.cell? ⟨B, 1, none⟩ = some (.slice q m cq))
    (hp : n = 0 ∨ ∃ b o, p = some ⟨b, o, none⟩ ∧ b < M ∧ Cells w b o n f) (hq : m = 0 ∨ ∃ b o, q = some ⟨b, o, none⟩ ∧ b < M ∧ Cells w b o m g) : PartsIn M w (some ⟨B, 0, none⟩) 2 (consP (p, n, c) fun _ => (q, m, cq)) (cat2 n f g) := by
  refine ⟨.inr ⟨B, 0, rfl, hB, fun i hi => ?_⟩, fun i hi => ?_⟩
  · rcases (show i = 0 ∨ i = 1 by omega) with rfl | rfl
    · exact h0
    · exact h1
  · rcases (show i = 0 ∨ i = 1 by omega) with rfl | rfl
    · rcases hp with h | ⟨b, o, e1, e2, e3⟩
      · exact .inl h
      · refine .inr ⟨b, o, e1, e2, fun j hj => ?_⟩
        have hj' : j < n := hj
        show w.cell? _ = some (.int .u8 (cat2 n f g (0 + j) : Nat))
        rw [Nat.zero_add, cat2_low hj']; exact e3 j hj'
    · rcases hq with h | ⟨b, o, e1, e2, e3⟩
      · exact .inl h
      · refine .inr ⟨b, o, e1, e2, fun j hj => ?_⟩
        have hj' : j < m := hj
        rw [show lenTo (consP (p, n, c) fun _ => (q, m, cq)) 1 = n by show 0 + n = n; omega]
        show w.cell? _ = some (.int .u8 (cat2 n f g (n + j) : Nat))
        rw [cat2_high]; exact e3 j hj'
theorem two_len (x y : Option Addr × Nat × Nat) : lenTo (consP x fun _ => y) 2 = x.2.1 + y.2.1 := by show 0 + x.2.1 + y.2.1 = _; omega
theorem two_caps {x y : Option Addr × Nat × Nat} (hx : x.2.1 ≤ x.2.2) (hy : y.2.1 ≤ y.2.2) : ∀ i, i < 2 → (consP x (fun _ => y) i).2.1 ≤ (consP x (fun _ => y) i).2.2 := fun i hi => by
  rcases (show i = 0 ∨ i = 1 by omega) with rfl | rfl
  · exact hx
  · exact hy
theorem partL_cons {k : Nat} {v : Value} {p : Option Addr} {n c np : Nat} {P : Nat → Option Addr × Nat × Nat} {w : World} {B : Nat} (hv : v = .slice p n c) (h : ∀ i u, ([v] ++ partL np P)[i]? = some u → w.cell? ⟨B, i, none⟩ = some u) :
    ∀ i, i < np + 1 → w.cell? ⟨B, i, none⟩ = some (.slice (consP (p, n, c) P i).1 (consP (p, n, c) P i).2.1 (consP (p, n, c) P i).2.2) := fun i hi => by
  subst hv
  rcases i with _ | i
  · exact h 0 _ rfl
  · rw [consP_succ]
    exact h (i + 1) _ (by rw [List.singleton_append, List.getElem?_cons_succ]; exact partL_at (by omega))
/-- The digest of a part and of others behind it. -/
theorem Of_cons {w : World} {q : Option Addr} {np : Nat} {P : Nat → Option Addr × Nat × Nat} {g f : Nat → Nat} {p : Option Addr} {n c B cB k : Nat} (hk : 1 + np = k) (hT : TabAt w) (h : PartsIn w.heap.size w q np P g) (hB : B < w.heap.size)
    (hr : ∀ i, i < np + 1 → w.cell? ⟨B, i, none⟩ = some (.slice (consP (p, n, c) P i).1 (consP (p, n, c) P i).2.1 (consP (p, n, c) P i).2.2)) (hp : BytesAt w p n f)
    (hnp : np ≤ 900) (hN : lenTo P np ≤ 900000) (hn : n ≤ 90000) (hc : n ≤ c) (hPc : ∀ i, i < np → (P i).2.1 ≤ (P i).2.2) (hf : ∀ i, i < n → f i < 256) (hg : ∀ i, i < lenTo P np → g i < 256) :
    Calls Tryd.prog 27 #[.slice (some ⟨B, 0, none⟩) k cB] w fun e w' => e = .returned (.agg (cellsOf .u8 (mk 32 (digF (n + lenTo P np) (cat2 n f g))))) ∧ Below w.heap.size w w' := by
  obtain rfl : k = np + 1 := by omega
  have hl : lenTo (consP (p, n, c) P) (np + 1) = n + lenTo P np := consP_len _ _ _
  have := Of_any (np + 1) cB (some ⟨B, 0, none⟩) (consP (p, n, c) P) (cat2 n f g) (by omega) (by rw [hl]; omega) (fun i hi => by
      rcases i with _ | i
      · exact hc
      · rw [consP_succ]; exact hPc i (by omega)) (by rw [hl]; exact cat2_lt hf hg) w hT (partsIn_cons h hB hr hp)
  rw [hl] at this; exact this
/-- The digest of two parts. -/
theorem Of_two {w : World} {B c m cq cB : Nat} {p q : Option Addr} {n : Nat} {f g : Nat → Nat} (hT : TabAt w) (hB : B < w.heap.size) (h0 : w.cell? ⟨B, 0, none⟩ = some (.slice p n c)) (h1 : w.cell? ⟨B, 1, none⟩ = some (.slice q m cq)) (hp : BytesAt w p n f) (hq : BytesAt w q m g)
    (hn : n + m ≤ 900000) (hc : n ≤ c) (hcq : m ≤ cq) (hf : ∀ i, i < n → f i < 256) (hg : ∀ i, i < m → g i < 256) :
    Calls Tryd.prog 27 #[.slice (some ⟨B, 0, none⟩) 2 cB] w fun e w' => e = .returned (.agg (cellsOf .u8 (mk 32 (digF (n + m) (cat2 n f g))))) ∧ Below w.heap.size w w' := by
  have hl : lenTo (consP (p, n, c) fun _ => (q, m, cq)) 2 = n + m := two_len _ _
  have := Of_any 2 cB (some ⟨B, 0, none⟩) (consP (p, n, c) fun _ => (q, m, cq)) (cat2 n f g) (by omega) (by rw [hl]; omega) (two_caps hc hcq) (by rw [hl]; exact cat2_lt hf hg) w hT (partsIn_two hB h0 h1 hp hq)
  rw [hl] at this; exact this
end Go.Proofs.YtfjbehobpkmjbaaDoor

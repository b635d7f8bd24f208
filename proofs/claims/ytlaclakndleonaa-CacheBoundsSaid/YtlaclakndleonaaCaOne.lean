/- One cache between two calls with the law's own blocks; lists of integers; what CacheUsed keeps. Condition: package cache does as CacheSpec says. -/
import Derived.Test.YtlaclakndleonaaCaReg
namespace Go.Proofs.Ytlaclakndleonaa
open Go.ChangeShapes Go.WideShapes Go.ChangeAt Go.RowKit
set_option linter.unusedVariables false
/-! ### One cache -/
/-- The law's own blocks X stand apart from the cache's. -/
def QSt (At : AtT) (w W : World) (B : Nat) (q : Int) (ls : List LineOf) (t : Nat) (X : Nat → Prop) : Prop :=
  ∃ S, At W S B q ls t ∧ (∀ k, S k → w.heap.size ≤ k) ∧ (∀ k, X k → k < W.heap.size ∧ ¬ S k) ∧ Below w.heap.size w W
section
variable {At : AtT} {w W W' : World} {B : Nat} {q : Int} {ls ls' : List LineOf} {t t' : Nat} {X Y : Nat → Prop}
theorem QSt.of (h : CaS At w W B q ls t) (hX : ∀ k, ¬ X k) : QSt At w W B q ls t X := by
  obtain ⟨S, h1, h2, h3⟩ := h
  exact ⟨S, h1, h2, fun k hk => absurd hk (hX k), h3⟩
theorem QSt.cas (h : QSt At w W B q ls t X) : CaS At w W B q ls t := by obtain ⟨S, h1, h2, _, h4⟩ := h; exact ⟨S, h1, h2, h4⟩
theorem QSt.low (h : QSt At w W B q ls t X) : Below w.heap.size w W := by obtain ⟨_, _, _, _, h⟩ := h; exact h
theorem QSt.xlt (h : QSt At w W B q ls t X) : ∀ k, X k → k < W.heap.size := by obtain ⟨_, _, _, h, _⟩ := h; exact fun k hk => (h k hk).1
theorem QSt.good (K : CacheSpec At) (h : QSt At w W B q ls t X) : GoodL q ls := by obtain ⟨S, h1, _⟩ := h; exact K.good h1
theorem QSt.mono (h : QSt At w W B q ls t X) (hY : ∀ k, Y k → X k) : QSt At w W B q ls t Y := by
  obtain ⟨S, h1, h2, h3, h4⟩ := h
  exact ⟨S, h1, h2, fun k hk => h3 k (hY k hk), h4⟩
theorem QSt.below (K : CacheSpec At) (h : QSt At w W B q ls t X) (hb : Below W.heap.size W W') : QSt At w W' B q ls t (fun k => X k ∨ (W.heap.size ≤ k ∧ k < W'.heap.size)) := by
  obtain ⟨S, h1, h2, h3, h4⟩ := h
  refine ⟨S, K.keep h1 hb.size (fun k hk => hb.block k (K.lt h1 k hk)), h2, fun k hk => ?_, h4.trans (hb.mono h4.size)⟩
  rcases hk with hk | ⟨e1, e2⟩
  · exact ⟨Nat.lt_of_lt_of_le (h3 k hk).1 hb.size, (h3 k hk).2⟩
  · exact ⟨e2, fun e => by have := K.lt h1 k e; omega⟩
theorem QSt.wrote (K : CacheSpec At) (h : QSt At w W B q ls t X) (hk : Keeps Y W W') (hY : ∀ k, Y k → X k) (hYw : ∀ k, Y k → w.heap.size ≤ k) : QSt At w W' B q ls t X := by
  obtain ⟨S, h1, h2, h3, h4⟩ := h
  exact ⟨S, K.keep h1 hk.size (fun k hs => hk.block k (K.lt h1 k hs) (fun e => (h3 k (hY k e)).2 hs)), h2, fun k hx => ⟨Nat.lt_of_lt_of_le (h3 k hx).1 hk.size, (h3 k hx).2⟩, h4.trans (hk.below h4.size (fun k hk2 e => by have := hYw k e; omega))⟩
theorem QSt.prog {S : Nat → Prop} (K : CacheSpec At) (h2 : ∀ k, S k → w.heap.size ≤ k) (h3 : ∀ k, X k → k < W.heap.size ∧ ¬ S k) (h4 : Below w.heap.size w W) (hT : ToAt At W W' S B q ls' t') : QSt At w W' B q ls' t' X ∧ Fr X W W' := by
  obtain ⟨S', k1, k2, k3⟩ := hT
  refine ⟨⟨S', k1, fun k hk => ?_, fun k hk => ⟨Nat.lt_of_lt_of_le (h3 k hk).1 k2.size, fun e => ?_⟩, h4.trans (k2.below h4.size (fun k hk e => by have := h2 k e; omega))⟩, k2.size, fun k hk => k2.block k (h3 k hk).1 (h3 k hk).2⟩
  · rcases k3 k hk with e | e
    · exact h2 k e
    · exact Nat.le_trans h4.size e
  · rcases k3 k e with e2 | e2
    · exact (h3 k hk).2 e2
    · have := (h3 k hk).1; omega
theorem QSt.get (K : CacheSpec At) (h : QSt At w W B q ls t X) (u b : Int) (hu : okI u) (hb : okI b) (ht : t ≤ 100000) : Calls Try.prog 12 #[.pointer (some ⟨B, 0, none⟩), .int .i64 u, .int .i64 b] W fun e W' => e = .returned (.tuple #[lineV (gotL ls u b), .bool (decide (findL ls u b < ls.length))]) ∧ QSt At w W' B q (getL ls u b) (t + 1) X ∧ Fr X W W' := by
  obtain ⟨S, h1, h2, h3, h4⟩ := h
  exact (K.get u b hu hb h1 ht).mono fun e W' ⟨a, k⟩ => ⟨a, QSt.prog K h2 h3 h4 k⟩
theorem QSt.put (K : CacheSpec At) (h : QSt At w W B q ls t X) (l : LineOf) (hl : l.ok) (ht : t ≤ 100000) : Calls Try.prog 15 #[.pointer (some ⟨B, 0, none⟩), lineV l] W fun e W' => e = .returned (errN (putN q ls l)) ∧ QSt At w W' B q (putS q ls l) (t + 1) X ∧ Fr X W W' := by
  obtain ⟨S, h1, h2, h3, h4⟩ := h
  exact (K.put l hl h1 ht).mono fun e W' ⟨a, k⟩ => ⟨a, QSt.prog K h2 h3 h4 k⟩
theorem QSt.clean (K : CacheSpec At) (h : QSt At w W B q ls t X) (ht : t ≤ 100000) : Calls Try.prog 18 #[.pointer (some ⟨B, 0, none⟩)] W fun e W' => e = .returned (.int .i64 (dirtyL ls).length) ∧ QSt At w W' B q (cleanedL ls) (t + 1) X ∧ Fr X W W' := by
  obtain ⟨S, h1, h2, h3, h4⟩ := h
  exact (K.clean h1 ht).mono fun e W' ⟨a, k⟩ => ⟨a, QSt.prog K h2 h3 h4 k⟩
theorem QSt.drop (K : CacheSpec At) (h : QSt At w W B q ls t X) (u : Int) (hu : okI u) (ht : t ≤ 100000) : Calls Try.prog 20 #[.pointer (some ⟨B, 0, none⟩), .int .i64 u] W fun e W' => e = .returned (.int .i64 ((ls.length - (dropL ls u).length : Nat) : Int)) ∧ QSt At w W' B q (dropL ls u) (t + 1) X ∧ Fr X W W' := by
  obtain ⟨S, h1, h2, h3, h4⟩ := h
  exact (K.drop u hu h1 ht).mono fun e W' ⟨a, k⟩ => ⟨a, QSt.prog K h2 h3 h4 k⟩
end
/-! ### Lists of integers -/
def intC (z : Int) : List Value := [.int .i64 z]
theorem elemInt : ElemOf Try.prog 58 3 1 8 intC where
  under := Try.underlying58
  size := by kernel_rfl
  bytes := by kernel_rfl
  zero := ⟨.int .i64 0, by kernel_rfl, rfl⟩
  len := fun _ => rfl
  one := fun c u hu => by
    obtain rfl : u = .int .i64 c := by simpa [intC] using hu
    rfl
  pos := by decide
theorem int_row {w : World} {q : Option Addr} {l : List Int} (h : RowsAt 1 intC w q l) {k : Nat} (hk : k < l.length) : ∃ B o, q = some ⟨B, o, none⟩ ∧ B < w.heap.size ∧ w.cell? ⟨B, o + k, none⟩ = some (.int .i64 (l.getD k 0)) := by
  rcases h with rfl | ⟨B, o, h1, h2, h3⟩
  · simp at hk
  · have := h3 k _ (List.getElem?_eq_getElem hk) 0 _ rfl
    rw [Nat.one_mul, Nat.add_zero] at this
    exact ⟨B, o, h1, h2, by rw [this, List.getD_eq_getElem?_getD, List.getElem?_eq_getElem hk]; rfl⟩
theorem rows_ints {w : World} {q : Option Addr} {l : List Int} (h : IntsAt w q l) : RowsAt 1 intC w q l := by
  rcases h with h | ⟨B, o, h1, h2, h3⟩
  · exact .inl h
  · refine .inr ⟨B, o, h1, h2, fun i c hc j v hv => ?_⟩
    have hi := (List.getElem?_eq_some_iff.1 hc).1
    have hj : j = 0 := by
      rcases j with _ | j
      · rfl
      · simp [intC] at hv
    subst hj
    have e := h3 i hi
    rw [List.getD_eq_getElem?_getD, hc] at e
    rw [Nat.one_mul, Nat.add_zero, e]
    simpa [intC] using hv
theorem fill_int1 (z : Int) : Instr.fill (fun i => some (i * 1, 1)) ((Array.range (1 * 1)).map ((Value.int .i64 0).cells[· % (Value.int .i64 0).cells.size]!)) [(0, Value.int .i64 z)] = some ([z].flatMap intC).toArray := by kernel_rfl
theorem run_int1 (z : Int) (w : World) : (Instr.buildSlice 58 1 #[(0, .int .i64 z)]).run Try.prog w = .ok (.slice (some ⟨w.heap.size, 0, none⟩) 1 1) (w.alloc (.cells ([z].flatMap intC).toArray 3)) := by
  have hi : (Try.prog.info? 3).map (·.size) = some 1 := by kernel_rfl
  have hz : (Try.prog.info? 3).bind (·.zero) = some (.int .i64 0) := by kernel_rfl
  cases hq : Try.prog.info? 3 with
  | none => rw [hq] at hi; simp at hi
  | some i =>
    rw [hq] at hi hz
    have hs : i.size = 1 := by simpa using hi
    have hzz : i.zero = some (.int .i64 0) := by simpa using hz
    refine run_buildSlice w 58 3 1 _ _ i _ Try.underlying58 hq hzz (by rw [hs]; omega) (by rw [hs]; omega) ?_
    rw [hs]; exact fill_int1 z
theorem rows_int1 (w : World) (z : Int) : RowsAt 1 intC (w.alloc (.cells (intC z).toArray 3)) (some ⟨w.heap.size, 0, none⟩) [z] :=
  .inr ⟨w.heap.size, 0, rfl, by simp, fun i d hd j v hv => by
    rcases i with _ | i
    · obtain rfl : z = d := by simpa using hd
      rw [cell_of_row _ _ _ _ _ _ (heap_alloc_new w (.cells (intC z).toArray 3))]
      simpa using hv
    · simp at hd⟩
section
variable {ops : Array Oper} {rest : List Oper} {o : Oper} {a : Act} {w : World} {Q : Exit → Act → World → Prop}
theorem wpList_int1 (hgd : o.guard = none) (x : Operand) (ho : o.op = .buildSlice 58 1 #[(0, x)]) (z : Int) (hx : a.eval x = .int .i64 z)
    (h : wpList Try.prog ops Q rest (a.put o.dst (.slice (some ⟨w.heap.size, 0, none⟩) 1 1)) (w.alloc (.cells (intC z).toArray 3))) : wpList Try.prog ops Q (o :: rest) a w :=
  wpList_plain hgd fun _ hK => by
    have e := run_int1 z w
    rw [show [z].flatMap intC = intC z by simp] at e
    unfold Oper.wp execOp
    simp only [ho]
    simp [hx, e]
    exact hK _ _ h
end

theorem rows_tail {w : World} {B : Nat} {x : Int} {l : List Int} (h : RowsAt 1 intC w (some ⟨B, 0, none⟩) (x :: l)) : RowsAt 1 intC w (some ⟨B, 1, none⟩) l := by
  rcases h with h | ⟨B', o, h1, h2, h3⟩
  · cases h
  · cases h1
    refine .inr ⟨B, 1, rfl, h2, fun i c hc => ?_⟩
    have := h3 (i + 1) c (by simpa using hc)
    rw [show 1 + 1 * i = 0 + 1 * (i + 1) by omega]
    exact this
theorem intElem1 : IntElem Try.prog 3 .i64 := ⟨Try.underlying3, by kernel_rfl⟩
section
variable {ops : Array Oper} {rest : List Oper} {o : Oper} {a : Act} {w : World} {Q : Exit → Act → World → Prop} {C : World → Prop} {K : Act → Prop}
theorem run_ints_tail (p : Option Addr) (n cap : Nat) (hk : 1 ≤ n) (hn : n ≤ cap) (w : World) : (Instr.sliceAt 58 (.slice p n cap) (some (.int .i64 1)) none none).run Try.prog w = .ok (.slice (if cap = 1 then p else p.map (·.add 1)) (n - 1) (cap - 1)) w := by
  have hs := intElem1.run_size (P := Try.prog) w
  have e0 : (1 : Int) ≤ n := by omega
  have e2 : (0 : Int) ≤ n := by omega
  have e3 : (1 : Int) ≤ cap := by omega
  simp [go_sem, e0, hs, Program.elem]
theorem int_addr (x y : Operand) (ho : o.op = .indexAddr 58 x y) (B off n cap k : Nat) (hx : a.eval x = .slice (some ⟨B, off, none⟩) n cap) (hy : a.eval y = .int .i64 k) (hk : k < n) (w : World) : (execOp a.eval o).run Try.prog w = .ok (.value (.pointer (some ⟨B, off + k, none⟩))) w := by
  have h0 : (k : Int) < n := by omega
  have hs := intElem1.run_size (P := Try.prog) w
  unfold execOp
  simp only [ho, hx, hy]
  simp [go_sem, Try.underlying58, h0, hs, addr_add]
theorem gives_int_elem (x y : Operand) (ho : o.op = .indexAddr 58 x y) (B off n cap k : Nat) (hx : a.eval x = .slice (some ⟨B, off, none⟩) n cap) (hy : a.eval y = .int .i64 k) (hk' : k < n) (hk : K (a.put o.dst (.pointer (some ⟨B, off + k, none⟩)))) : ∃ v, Gives Try.prog C o a v ∧ K (a.put o.dst v) :=
  ⟨_, fun w _ => int_addr x y ho B off n cap k hx hy hk' w, hk⟩
theorem wpList_int_elem (hgd : o.guard = none) (x y : Operand) (ho : o.op = .indexAddr 58 x y) (B off n cap k : Nat) (hx : a.eval x = .slice (some ⟨B, off, none⟩) n cap) (hy : a.eval y = .int .i64 k) (hk : k < n) (h : wpList Try.prog ops Q rest (a.put o.dst (.pointer (some ⟨B, off + k, none⟩))) w) : wpList Try.prog ops Q (o :: rest) a w :=
  wpList_plain hgd fun K hK => by
    unfold Oper.wp
    rw [int_addr x y ho B off n cap k hx hy hk w]
    exact hK _ _ h
theorem wpList_ints_tail (hgd : o.guard = none) (x : Operand) (ho : o.op = .slice 58 x (some (.const (.int .i64 1))) none none) (B n cap : Nat) (hx : a.eval x = .slice (some ⟨B, 0, none⟩) n cap) (h2 : 2 ≤ n) (hn : n ≤ cap) (h : wpList Try.prog ops Q rest (a.put o.dst (.slice (some ⟨B, 1, none⟩) (n - 1) (cap - 1))) w) : wpList Try.prog ops Q (o :: rest) a w :=
  wpList_plain hgd fun K hK => by
    have e : (execOp a.eval o).run Try.prog w = .ok (.value (.slice (some ⟨B, 1, none⟩) (n - 1) (cap - 1))) w := by
      have e := run_ints_tail (some ⟨B, 0, none⟩) n cap (by omega) hn w
      rw [if_neg (by omega)] at e
      unfold execOp
      simp only [ho]
      rw [Sem.run_bind, hx]
      show ((Instr.sliceAt 58 (.slice (some ⟨B, 0, none⟩) n cap) (some (.int .i64 1)) none none).run Try.prog w).andThen _ = _
      rw [e]; rfl
    unfold Oper.wp
    rw [e]
    exact hK _ _ h
theorem gives_line_block (x : Operand) (ho : o.op = .fieldAddr 42 x 1) (B off : Nat) (hx : a.eval x = .pointer (some ⟨B, off, none⟩)) (hk : K (a.put o.dst (.pointer (some ⟨B, off + 1, none⟩)))) : ∃ v, Gives Try.prog C o a v ∧ K (a.put o.dst v) :=
  ⟨_, fun w _ => by
    unfold execOp
    simp only [ho, hx]
    simp [go_sem, addr_add], hk⟩
theorem gives_int_isnt (x y : Operand) (ho : o.op = .binOp .neq 3 x y 3) (i j : Int) (hx : a.eval x = .int .i64 i) (hy : a.eval y = .int .i64 j) (v : Bool) (hv : (i != j) = v) (hk : K (a.put o.dst (.bool v))) : ∃ v, Gives Try.prog C o a v ∧ K (a.put o.dst v) :=
  ⟨_, fun w _ => by
    subst hv
    unfold execOp
    simp only [ho, hx, hy]
    simp [go_sem, bne], hk⟩
theorem run_zlv (b : Int) (w : World) : (Instr.build 42 #[(1, .int .i64 b)]).run Try.prog w = .ok (lineV (zl b false)) w := run_zl0 b w
theorem wpList_zlv (hw : Region.wanted o (yielded ops a.tmps) = true) (x : Operand) (ho : o.op = .build 42 #[(1, x)]) (b : Int) (hx : a.eval x = .int .i64 b) (h : wpList Try.prog ops Q rest (a.put o.dst (lineV (zl b false))) w) : wpList Try.prog ops Q (o :: rest) a w :=
  wanted_step hw fun K hK => by
    unfold Oper.wp
    rw [exec_build 42 _ #[(1, .int .i64 b)] _ ho (by simp [hx]) (run_zlv b) w]
    exact hK _ _ h
end
/-! ### The order of use -/
theorem filter_out {p : LineOf → Bool} : ∀ ls : List LineOf, ls.Pairwise (fun x y => ¬ (p x = true ∧ p y = true)) → ls.findIdx p < ls.length → ls.filter (fun x => !p x) = ls.eraseIdx (ls.findIdx p)
  | [], _, h => by simp at h
  | a :: l, hp, h => by
    rw [List.pairwise_cons] at hp
    cases ha : p a with
    | true =>
      rw [List.findIdx_cons, ha]
      show _ = l
      rw [List.filter_cons_of_neg (by simp [ha])]
      exact List.filter_eq_self.2 fun y hy => by
        have := hp.1 y hy
        cases hy2 : p y with
        | false => rfl
        | true => exact absurd ⟨ha, hy2⟩ this
    | false =>
      rw [List.findIdx_cons, ha]
      show _ = a :: l.eraseIdx (l.findIdx p)
      rw [List.filter_cons_of_pos (by simp [ha]), filter_out l hp.2 (by
        rw [List.findIdx_cons, ha] at h
        simpa using h)]
/-- All lines are clean, of unit 0, and their blocks are these. -/
structure UsedI (ls : List LineOf) (bs : List Int) : Prop where
  all : ∀ l ∈ ls, l.u = 0 ∧ l.d = false
  map : ls.map (·.b) = bs
def nextB (q : Int) (bs : List Int) (b : Int) : List Int := if q < ((bs.filter (· != b)).length + 1 : Nat) then (bs.filter (· != b) ++ [b]).drop 1 else bs.filter (· != b) ++ [b]
theorem used_filter {ls : List LineOf} {bs : List Int} (h : UsedI ls bs) (b : Int) : bs.filter (· != b) = (ls.filter fun x => !(x.is 0 b)).map (·.b) := by
  rw [← h.map, List.filter_map]
  congr 1
  apply List.filter_congr
  intro x hx
  have := (h.all x hx).1
  unfold LineOf.is
  simp [this, bne]
theorem used_found {q : Int} {ls : List LineOf} {bs : List Int} (h : UsedI ls bs) (g : GoodL q ls) (b : Int) (hf : findL ls 0 b < ls.length) : UsedI (getL ls 0 b) (nextB q bs b) := by
  have hp : ls.Pairwise (fun x y => ¬ (x.is 0 b = true ∧ y.is 0 b = true)) := g.apart.imp fun hxy ⟨e1, e2⟩ => by
    rw [LineOf.is_iff] at e1 e2
    exact hxy ⟨e1.1.trans e2.1.symm, e1.2.trans e2.2.symm⟩
  have e := filter_out ls hp hf
  have hb := used_filter h b
  rw [e] at hb
  have hlen : (bs.filter (· != b)).length = ls.length - 1 := by rw [hb, List.length_map]; exact outL_len hf
  have hat : lineAt ls (findL ls 0 b) ∈ ls := lineAt_mem hf
  have his : (lineAt ls (findL ls 0 b)).b = b := by
    have := idx_is (p := fun l => l.is 0 b) hf
    exact (LineOf.is_iff.1 this).2
  have e3 : getL ls 0 b = outL ls (findL ls 0 b) ++ [lineAt ls (findL ls 0 b)] := if_pos hf
  have e4 : nextB q bs b = bs.filter (· != b) ++ [b] := if_neg (by have := g.few; rw [hlen]; omega)
  rw [e3, e4]
  refine ⟨fun l hl => ?_, ?_⟩
  · rcases List.mem_append.1 hl with e1 | e1
    · exact h.all l (mem_out e1)
    · obtain rfl : l = lineAt ls (findL ls 0 b) := by simpa using e1
      exact h.all _ hat
  · rw [List.map_append, hb]
    show (outL ls (findL ls 0 b)).map _ ++ [(lineAt ls (findL ls 0 b)).b] = _
    rw [his]; rfl
theorem used_new {q : Int} {ls : List LineOf} {bs : List Int} (h : UsedI ls bs) (g : GoodL q ls) (b : Int) (hf : ¬ findL ls 0 b < ls.length) : putN q ls (zl b false) = 0 ∧ UsedI (putS q ls (zl b false)) (nextB q bs b) := by
  have hb := used_filter h b
  have hall : ls.filter (fun x => !(x.is 0 b)) = ls := List.filter_eq_self.2 fun x hx => by
    cases hx2 : x.is 0 b with
    | false => rfl
    | true =>
      exfalso
      apply hf
      unfold findL
      exact List.findIdx_lt_length_of_exists ⟨x, hx, hx2⟩
  rw [hall, h.map] at hb
  have hlen : bs.length = ls.length := by rw [← h.map, List.length_map]
  have hzu : (zl b false).u = 0 := rfl
  have hzb : (zl b false).b = b := rfl
  have hzd : (zl b false).d = false := rfl
  have hz : (zl b false).u = 0 ∧ (zl b false).d = false := ⟨hzu, hzd⟩
  have e5 : nextB q bs b = if q < (bs.length + 1 : Nat) then (bs ++ [b]).drop 1 else bs ++ [b] := by unfold nextB; rw [hb]
  rw [e5]
  unfold putN putS
  rw [hzu, hzb, if_neg hf, if_neg hf]
  by_cases hq : q ≤ (ls.length : Int)
  · have h0 : 0 < ls.length := by have := g.low; omega
    have hc : cleanL ls = 0 := by
      unfold cleanL
      refine idx_here h0 (Nat.zero_le _) ?_
      rw [(h.all _ (lineAt_mem h0)).2]; rfl
    rw [if_pos hq, if_pos hq, hc, if_pos h0, if_pos h0, if_pos (by rw [hlen]; omega)]
    refine ⟨rfl, ⟨fun l hl => ?_, ?_⟩⟩
    · rcases List.mem_append.1 hl with e1 | e1
      · exact h.all l (mem_out e1)
      · obtain rfl : l = zl b false := by simpa using e1
        exact hz
    · match ls, bs, h.map, h0 with
      | a :: l, _, rfl, _ => simp [outL, hzb]
  · rw [if_neg hq, if_neg hq, if_neg (by rw [hlen]; omega)]
    refine ⟨rfl, ⟨fun l hl => ?_, ?_⟩⟩
    · rcases List.mem_append.1 hl with e1 | e1
      · exact h.all l e1
      · obtain rfl : l = zl b false := by simpa using e1
        exact hz
    · rw [List.map_append, h.map]; rfl
theorem get_none {ls : List LineOf} {u b : Int} (hf : ¬ findL ls u b < ls.length) : getL ls u b = ls := by unfold getL; rw [if_neg hf]
end Go.Proofs.Ytlaclakndleonaa

/- Numbers as a command says them, in rows; slices of ints built with elements in them. Conditions: as each says. -/
import Derived.Test.YtkibeddfkenlkaaCbLaw
namespace Go.Proofs.Ytkibeddfkenlkaa
open Go.ChangeShapes Go.WideShapes Go.ChangeAt Go.RowKit
set_option linter.unusedVariables false
set_option linter.unusedSimpArgs false
def regA (p : Int × Int) : Array Value := #[.int .i64 p.1, .int .i64 p.2]
def regZ : Value := .agg #[.int .i64 0, .int .i64 0]
def regC (p : Int × Int) : List Value := [.int .i64 p.1, .int .i64 p.2]
theorem reg_c0 {W : World} {B o : Nat} {p : Int × Int} (h : W.rangeAt B o (regC p)) : W.cell? ⟨B, o, none⟩ = some (.int .i64 p.1) := h 0 _ rfl
theorem reg_c1 {W : World} {B o : Nat} {p : Int × Int} (h : W.rangeAt B o (regC p)) : W.cell? ⟨B, o + 1, none⟩ = some (.int .i64 p.2) := h 1 _ rfl
abbrev nmT : TypeId := 61
abbrev nmS : TypeId := 58
theorem nmSize : (Try.prog.info? nmT).map (·.size) = some 2 := by kernel_rfl
theorem nmZero : (Try.prog.info? nmT).bind (·.zero) = some regZ := by kernel_rfl
theorem elemNm : ElemOf Try.prog nmS nmT 2 16 regC where
  under := Try.underlying58
  size := nmSize
  bytes := by kernel_rfl
  zero := ⟨regZ, nmZero, by kernel_rfl⟩
  len := fun _ => rfl
  one := fun c u hu => by
    simp [regC] at hu
    rcases hu with rfl | rfl <;> rfl
  pos := by decide
theorem nm_built (a b : Int) : Try.prog.built nmT [(0, .int .i64 a), (1, .int .i64 b)] = some (regA (a, b)) := by kernel_rfl
theorem rows_laid {α : Type} {sz : Nat} {C : α → List Value} (hC : ∀ c, (C c).length = sz) (w : World) (e : TypeId) (l : List α) : RowsAt sz C (w.alloc (.cells (l.flatMap C).toArray e)) (some ⟨w.heap.size, 0, none⟩) l :=
  .inr ⟨w.heap.size, 0, rfl, by simp, fun i d hd j v hv => by
    rw [cell_of_row _ _ _ _ _ _ (heap_alloc_new w (.cells (l.flatMap C).toArray e))]
    have hj : j < sz := by
      have := (List.getElem?_eq_some_iff.1 hv).1
      rw [hC] at this; exact this
    have h := flatMap_at hC l i j d hd hj
    rw [List.getElem?_toArray, Nat.zero_add, Nat.mul_comm, h]; exact hv⟩
theorem own_laid {α : Type} {sz : Nat} {C : α → List Value} (hC : ∀ c, (C c).length = sz) (w : World) (e : TypeId) (l : List α) (n : Nat) (hn : l.length = n) (hl : n ≤ 1000) : OwnL e sz C (w.alloc (.cells (l.flatMap C).toArray e)) w.heap.size (w.heap.size + 1) (.slice (some ⟨w.heap.size, 0, none⟩) n n) l :=
  .inr ⟨w.heap.size, n, (l.flatMap C).toArray, by rw [hn], Nat.le_refl _, by omega, heap_alloc_new _ _, by omega, by simp only [maxLen]; omega, by rw [List.size_toArray, flatMap_len hC, hn], by
    show (l.flatMap C).toArray.toList.take _ = _
    have h := flatMap_len hC l
    exact List.take_of_length_le (by simp only; omega)⟩
theorem fill_int1 (z : Int) : Instr.fill (fun i => some (i * 1, 1)) ((Array.range (1 * 1)).map ((Value.int .i64 0).cells[· % (Value.int .i64 0).cells.size]!)) [(0, Value.int .i64 z)] = some ([z].flatMap intC).toArray := by kernel_rfl
theorem fill_int8 (a b c d e f g h : Int) : Instr.fill (fun i => some (i * 1, 1)) ((Array.range (8 * 1)).map ((Value.int .i64 0).cells[· % (Value.int .i64 0).cells.size]!)) [(0, .int .i64 a), (1, .int .i64 b), (2, .int .i64 c), (3, .int .i64 d), (4, .int .i64 e), (5, .int .i64 f), (6, .int .i64 g), (7, .int .i64 h)] = some ([a, b, c, d, e, f, g, h].flatMap intC).toArray := by kernel_rfl
theorem fill_nm4 (p q r s : Int × Int) : Instr.fill (fun i => some (i * 2, 2)) ((Array.range (4 * 2)).map ((#[.int .i64 0, .int .i64 0] : Array Value)[· % (#[.int .i64 0, .int .i64 0] : Array Value).size]!)) [(0, .agg (regA p)), (1, .agg (regA q)), (2, .agg (regA r)), (3, .agg (regA s))] = some ([p, q, r, s].flatMap regC).toArray := by kernel_rfl
theorem fill_int4 (a b c d : Int) : Instr.fill (fun i => some (i * 1, 1)) ((Array.range (4 * 1)).map ((Value.int .i64 0).cells[· % (Value.int .i64 0).cells.size]!)) [(0, .int .i64 a), (1, .int .i64 b), (2, .int .i64 c), (3, .int .i64 d)] = some ([a, b, c, d].flatMap intC).toArray := by kernel_rfl
theorem fill_int5 (a b c d e : Int) : Instr.fill (fun i => some (i * 1, 1)) ((Array.range (5 * 1)).map ((Value.int .i64 0).cells[· % (Value.int .i64 0).cells.size]!)) [(0, .int .i64 a), (1, .int .i64 b), (2, .int .i64 c), (3, .int .i64 d), (4, .int .i64 e)] = some ([a, b, c, d, e].flatMap intC).toArray := by kernel_rfl
theorem fill_int10 (a b c d e f g h i j : Int) : Instr.fill (fun i => some (i * 1, 1)) ((Array.range (10 * 1)).map ((Value.int .i64 0).cells[· % (Value.int .i64 0).cells.size]!)) [(0, .int .i64 a), (1, .int .i64 b), (2, .int .i64 c), (3, .int .i64 d), (4, .int .i64 e), (5, .int .i64 f), (6, .int .i64 g), (7, .int .i64 h), (8, .int .i64 i), (9, .int .i64 j)] = some ([a, b, c, d, e, f, g, h, i, j].flatMap intC).toArray := by kernel_rfl
theorem fill_nm5 (p q r s t : Int × Int) : Instr.fill (fun i => some (i * 2, 2)) ((Array.range (5 * 2)).map ((#[.int .i64 0, .int .i64 0] : Array Value)[· % (#[.int .i64 0, .int .i64 0] : Array Value).size]!)) [(0, .agg (regA p)), (1, .agg (regA q)), (2, .agg (regA r)), (3, .agg (regA s)), (4, .agg (regA t))] = some ([p, q, r, s, t].flatMap regC).toArray := by kernel_rfl
theorem run_intsL (n : Nat) (hn : n ≠ 0) (hl : n ≤ 1000) (xs : Array (Nat × Value)) (l : List Int) (w : World)
    (hf : Instr.fill (fun i => some (i * 1, 1)) ((Array.range (n * 1)).map ((Value.int .i64 0).cells[· % (Value.int .i64 0).cells.size]!)) xs.toList = some (l.flatMap intC).toArray) :
    (Instr.buildSlice 63 n xs).run Try.prog w = .ok (.slice (some ⟨w.heap.size, 0, none⟩) n n) (w.alloc (.cells (l.flatMap intC).toArray 3)) := by
  have hi : (Try.prog.info? 3).map (·.size) = some 1 := by kernel_rfl
  have hz : (Try.prog.info? 3).bind (·.zero) = some (.int .i64 0) := by kernel_rfl
  cases hq : Try.prog.info? 3 with
  | none => rw [hq] at hi; simp at hi
  | some i =>
    rw [hq] at hi hz
    have hs : i.size = 1 := by simpa using hi
    have hzz : i.zero = some (.int .i64 0) := by simpa using hz
    refine run_buildSlice w 63 3 n _ _ i _ Try.underlying63 hq hzz (by rw [hs]; omega) (by rw [hs]; omega) ?_
    rw [hs]; exact hf
theorem run_nmsL (n : Nat) (hn : n ≠ 0) (hl : n ≤ 1000) (xs : Array (Nat × Value)) (l : List (Int × Int)) (w : World)
    (hf : Instr.fill (fun i => some (i * 2, 2)) ((Array.range (n * 2)).map ((#[.int .i64 0, .int .i64 0] : Array Value)[· % (#[.int .i64 0, .int .i64 0] : Array Value).size]!)) xs.toList = some (l.flatMap regC).toArray) :
    (Instr.buildSlice nmS n xs).run Try.prog w = .ok (.slice (some ⟨w.heap.size, 0, none⟩) n n) (w.alloc (.cells (l.flatMap regC).toArray nmT)) := by
  have hi := nmSize
  have hz := nmZero
  cases hq : Try.prog.info? nmT with
  | none => rw [hq] at hi; simp at hi
  | some i =>
    rw [hq] at hi hz
    have hs : i.size = 2 := by simpa using hi
    have hzz : i.zero = some regZ := by simpa using hz
    refine run_buildSlice w nmS nmT n _ _ i _ elemNm.under hq hzz (by rw [hs]; omega) (by rw [hs]; omega) ?_
    rw [hs]; exact hf
theorem OwnL.rows2 {α : Type} {e : TypeId} {sz base top n c : Nat} {C : α → List Value} {w : World} {q : Option Addr} {l : List α} (hC : ∀ c, (C c).length = sz) (h : OwnL e sz C w base top (.slice q n c) l) : RowsAt sz C w q l := by
  obtain ⟨p, c', hv, -, -, h3, -⟩ := h.rows hC
  cases hv; exact h3
section
variable {ops : Array Oper} {rest : List Oper} {o : Oper} {a : Act} {w : World} {Q : Exit → Act → World → Prop}
theorem wpList_intsL (hgd : o.guard = none) (n : Nat) (xs : Array (Nat × Operand)) (ho : o.op = .buildSlice 63 n xs) (ys : List (Nat × Value)) (hx : xs.toList.map (fun (i, x) => (i, a.eval x)) = ys) (l : List (Int)) (hn : l.length = n) (hn0 : n ≠ 0) (hl : n ≤ 1000)
    (hf : Instr.fill (fun i => some (i * 1, 1)) ((Array.range (n * 1)).map ((Value.int .i64 0).cells[· % (Value.int .i64 0).cells.size]!)) ys = some (l.flatMap intC).toArray)
    (h : ∀ w', OwnL 3 1 intC w' w.heap.size w'.heap.size (.slice (some ⟨w.heap.size, 0, none⟩) n n) l → Below w.heap.size w w' → w'.heap.size = w.heap.size + 1 → wpList Try.prog ops Q rest (a.put o.dst (.slice (some ⟨w.heap.size, 0, none⟩) n n)) w') : wpList Try.prog ops Q (o :: rest) a w :=
  wpList_plain hgd fun _ hK => by
    have e := run_intsL n hn0 hl ys.toArray l w hf
    have hx2 : xs.map (fun (i, x) => (i, a.eval x)) = ys.toArray := by rw [← hx]; apply Array.ext'; simp
    unfold Oper.wp execOp
    simp only [ho]
    rw [Sem.run_bind, hx2, e]
    exact hK _ _ (h _ (by rw [World.size_alloc]; exact own_laid elemInt.len w _ l n hn hl) ((Below.refl _ _).alloc (Nat.le_refl _) _) (World.size_alloc _ _))
theorem done_intsL {K : Value → World → Prop} (n : Nat) (xs : Array (Nat × Operand)) (ho : o.op = .buildSlice 63 n xs) (ys : List (Nat × Value)) (hx : xs.toList.map (fun (i, x) => (i, a.eval x)) = ys) (l : List (Int)) (hn : l.length = n) (hn0 : n ≠ 0) (hl : n ≤ 1000)
    (hf : Instr.fill (fun i => some (i * 1, 1)) ((Array.range (n * 1)).map ((Value.int .i64 0).cells[· % (Value.int .i64 0).cells.size]!)) ys = some (l.flatMap intC).toArray)
    (h : ∀ w', OwnL 3 1 intC w' w.heap.size w'.heap.size (.slice (some ⟨w.heap.size, 0, none⟩) n n) l → Below w.heap.size w w' → w'.heap.size = w.heap.size + 1 → K (.slice (some ⟨w.heap.size, 0, none⟩) n n) w') : doneAt Try.prog o a w K := by
  have e := run_intsL n hn0 hl ys.toArray l w hf
  have hx2 : xs.map (fun (i, x) => (i, a.eval x)) = ys.toArray := by rw [← hx]; apply Array.ext'; simp
  have hh := h _ (by rw [World.size_alloc]; exact own_laid elemInt.len w _ l n hn hl) ((Below.refl _ _).alloc (Nat.le_refl _) _) (World.size_alloc _ _)
  unfold doneAt execOp
  simp only [ho]
  rw [Sem.run_bind, hx2, e]
  exact hh
theorem wpList_nmsL (hgd : o.guard = none) (n : Nat) (xs : Array (Nat × Operand)) (ho : o.op = .buildSlice nmS n xs) (ys : List (Nat × Value)) (hx : xs.toList.map (fun (i, x) => (i, a.eval x)) = ys) (l : List (Int × Int)) (hn : l.length = n) (hn0 : n ≠ 0) (hl : n ≤ 1000)
    (hf : Instr.fill (fun i => some (i * 2, 2)) ((Array.range (n * 2)).map ((#[.int .i64 0, .int .i64 0] : Array Value)[· % (#[.int .i64 0, .int .i64 0] : Array Value).size]!)) ys = some (l.flatMap regC).toArray)
    (h : ∀ w', OwnL nmT 2 regC w' w.heap.size w'.heap.size (.slice (some ⟨w.heap.size, 0, none⟩) n n) l → Below w.heap.size w w' → w'.heap.size = w.heap.size + 1 → wpList Try.prog ops Q rest (a.put o.dst (.slice (some ⟨w.heap.size, 0, none⟩) n n)) w') : wpList Try.prog ops Q (o :: rest) a w :=
  wpList_plain hgd fun _ hK => by
    have e := run_nmsL n hn0 hl ys.toArray l w hf
    have hx2 : xs.map (fun (i, x) => (i, a.eval x)) = ys.toArray := by rw [← hx]; apply Array.ext'; simp
    unfold Oper.wp execOp
    simp only [ho]
    rw [Sem.run_bind, hx2, e]
    exact hK _ _ (h _ (by rw [World.size_alloc]; exact own_laid elemNm.len w _ l n hn hl) ((Below.refl _ _).alloc (Nat.le_refl _) _) (World.size_alloc _ _))
theorem wpList_nms_grow (hgd : o.guard = none) (s x : Operand) (ho : o.op = .call { callee := .builtin .append, args := #[s, x], argTypes := #[nmS, nmS] }) (base top : Nat) (v : Value) (l m : List (Int × Int)) (p : Option Addr) (n c : Nat) (hs : a.eval s = v) (hx : a.eval x = .slice p n c) (hn : n = m.length)
    (hv : OwnL nmT 2 regC w base top v l) (hm : RowsAt 2 regC w p m) (hk : l.length + m.length ≤ 4000000) (hbase : base ≤ w.heap.size)
    (h : ∀ v' w', OwnL nmT 2 regC w' base w'.heap.size v' (l ++ m) → Below base w w' → wpList Try.prog ops Q rest (a.put o.dst v') w') : wpList Try.prog ops Q (o :: rest) a w :=
  wpList_append_list elemNm hgd s x ho base top v l m p n c hs hx hn hv hm hk (by decide) hbase fun v' w' h1 h2 h3 => h v' w' h1 (below_own1 h2 hv.block hbase)
theorem gives_nm {C : World → Prop} {K : Act → Prop} (x y : Operand) (ho : o.op = .build nmT #[(0, x), (1, y)]) (i j : Int) (hx : a.eval x = .int .i64 i) (hy : a.eval y = .int .i64 j) (hk : K (a.put o.dst (.agg (regA (i, j))))) : ∃ v, Gives Try.prog C o a v ∧ K (a.put o.dst v) :=
  gives_build_any nmT _ #[(0, .int .i64 i), (1, .int .i64 j)] _ ho (by simp [hx, hy]) (fun w => run_build w nmT #[(0, .int .i64 i), (1, .int .i64 j)] _ (nm_built i j)) hk
theorem done_grow {α : Type} {K : Value → World → Prop} {t e : TypeId} {sz by' : Nat} {C : α → List Value} (E : ElemOf Try.prog t e sz by' C) (s x : Operand) (ho : o.op = .call { callee := .builtin .append, args := #[s, x], argTypes := #[t, t] }) (base top : Nat) (v : Value) (l m : List α) (p : Option Addr) (n c : Nat) (hs : a.eval s = v) (hx : a.eval x = .slice p n c) (hn : n = m.length)
    (hv : OwnL e sz C w base top v l) (hm : RowsAt sz C w p m) (hk : l.length + m.length ≤ 4000000) (hby : by' ≤ 1000) (hbase : base ≤ w.heap.size)
    (h : ∀ v' w', OwnL e sz C w' base w'.heap.size v' (l ++ m) → Below base w w' → K v' w') : doneAt Try.prog o a w K :=
  done_append_list E s x ho base top v l m p n c hs hx hn hv hm hk hby hbase fun v' w' h1 h2 h3 => h v' w' h1 (below_own1 h2 hv.block hbase)
end
theorem rowNm : IsRow nmT 2 (regA (0, 0)) := ⟨⟨_, Try.underlying61, rfl⟩, by kernel_rfl, by kernel_rfl, rfl⟩
theorem regs_at {w : World} {q : Option Addr} {ks : List (Int × Int)} (h : RowsAt 2 regC w q ks) {k : Nat} (hk : k < ks.length) : ∃ B o, q = some ⟨B, o, none⟩ ∧ B < w.heap.size ∧ w.rangeAt B (o + 2 * k) (regC (atR ks k)) := by
  rcases h with rfl | ⟨B, o, h1, h2, h3⟩
  · simp at hk
  · exact ⟨B, o, h1, h2, h3 k _ (atR_get hk)⟩
section
variable {ops : Array Oper} {rest : List Oper} {o : Oper} {a : Act} {w : World} {Q : Exit → Act → World → Prop}
theorem wpList_nm_elem (hgd : o.guard = none) (x y : Operand) (ho : o.op = .indexAddr nmS x y) (B off n cap k : Nat) (hx : a.eval x = .slice (some ⟨B, off, none⟩) n cap) (hy : a.eval y = .int .i64 k) (hk : k < n) (h : wpList Try.prog ops Q rest (a.put o.dst (.pointer (some ⟨B, off + 2 * k, none⟩))) w) : wpList Try.prog ops Q (o :: rest) a w :=
  wpList_plain hgd fun K hK => by
    have h0 : (k : Int) < n := by omega
    have hs : (sizeOf nmT).run Try.prog w = .ok 2 w := by
      have hi := nmSize
      cases hq : Try.prog.info? nmT with
      | none => simp [hq] at hi
      | some i =>
        have hs : i.size = 2 := by simpa [hq] using hi
        simp [sizeOf, typeInfo, hq, hs]
    unfold Oper.wp execOp
    simp only [ho, hx, hy]
    simp [go_sem, Try.underlying58, h0, hs, addr_add]
    rw [Nat.mul_comm]
    exact hK _ _ h
theorem wpList_nm_load (hgd : o.guard = none) (x : Operand) (ho : o.op = .load nmT x) (B off : Nat) (hx : a.eval x = .pointer (some ⟨B, off, none⟩)) (u c : Int) (hc : w.rangeAt B off (regC (u, c))) (h : wpList Try.prog ops Q rest (a.put o.dst (.agg (regA (u, c)))) w) : wpList Try.prog ops Q (o :: rest) a w :=
  wpList_load_mid hgd _ x ho B off hx (regC (u, c)) _ hc Try.underlying61 rfl nmSize h
end
theorem rows_get {W : World} {q : Option Addr} {l : List (Int × Int)} (h : RowsAt 2 regC W q l) {k : Nat} (hk : k < l.length) : ∃ B o, q = some ⟨B, o, none⟩ ∧ W.rangeAt B (o + 2 * k) (regC (atR l k)) := by
  obtain ⟨B, o, h1, -, h3⟩ := regs_at h hk
  exact ⟨B, o, h1, h3⟩
theorem regA_size (p : Int × Int) : (regA p).size = 2 := rfl
theorem regA_one (p : Int × Int) : (regA p).all (·.oneCell') = true := by simp [regA, Value.oneCell']
theorem boxNm {W : World} {O : Nat} {u c : Int} (h : BoxA W O nmT (regA (u, c))) : W.cell? ⟨O, 0, none⟩ = some (.int .i64 u) ∧ W.cell? ⟨O, 1, none⟩ = some (.int .i64 c) := ⟨h.cell 0, h.cell 1⟩
theorem nat_of {p : Int × Int} (h : NumOk p) : ∃ (s : Nat) (z : Int), p = ((s : Int), z) ∧ IsSize (s : Int) ∧ fitsN s z := by
  obtain ⟨a, z⟩ := p
  have h1 := h.size; have h2 := h.nat; have h3 := h.fits
  exact ⟨a.toNat, z, by rw [Prod.mk.injEq]; exact ⟨h2.symm, rfl⟩, h1, h3⟩
theorem step_is (a : Nat × (Nat → Nat)) (s : Nat) (z : Int) : stepN a ((s : Int), z) = (a.1 + s, cat a.1 a.2 (numF s z)) := by unfold stepN; rw [Int.toNat_natCast]
theorem size_le {s : Nat} (h : IsSize (s : Int)) : s ≤ 8 := by unfold IsSize at h; omega
theorem ints_cells {W : World} {q : Option Addr} {l : List Int} (h : RowsAt 1 intC W q l) (hl : 0 < l.length) : ∃ B o, q = some ⟨B, o, none⟩ ∧ B < W.heap.size ∧ ∀ k, k < l.length → W.cell? ⟨B, o + k, none⟩ = some (.int .i64 (l.getD k 0)) := by
  obtain ⟨B, o, h1, h2, -⟩ := int_row h hl
  refine ⟨B, o, h1, h2, fun k hk => ?_⟩
  obtain ⟨B', o', h3, -, h5⟩ := int_row h hk
  rw [h1] at h3
  cases h3
  exact h5
theorem done_cell {o : Oper} {a : Act} {w : World} {K : Value → World → Prop} (t : TypeId) (x : Operand) (ho : o.op = .load t x) (p : Addr) (v : Value) (hx : a.eval x = .pointer (some p)) (hu : ∀ w, (isAgg t).run Try.prog w = .ok false w) (hc : w.cell? p = some v) (h : K v w) : doneAt Try.prog o a w K := by
  have e := hu w
  unfold doneAt execOp
  simp only [ho, hx]
  simp [go_sem, hc, e, doneUpon]
  exact h
end Go.Proofs.Ytkibeddfkenlkaa

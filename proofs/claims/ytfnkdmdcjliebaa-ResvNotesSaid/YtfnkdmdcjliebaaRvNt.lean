/- The program's Note. -/
import Derived.Test.YtfnkdmdcjliebaaRvDo
import Derived.Test.YtfnkdmdcjliebaaWdAll
/- Plain mathematics of a note: the numbers it says, their bytes one behind the other, and that they can be told from them again. Conditions: as each says. -/
namespace Go.Proofs.Ytfnkdmdcjliebaa
open Go Go.RowKit
set_option linter.unusedVariables false
/-- What a note says: sizes and numbers. -/
def numsR (r : ResvOf) : List (Int × Int) := [(8, r.g), (1, if r.s then 1 else 0), (1, r.t), (1, (r.regs.length : Int)), (8, IntKind.i64.wrap (r.h + 1))] ++ r.regs.flatMap fun p => [(8, p.1), (8, p.2)]
/-- Bytes and one number more. -/
def stepN (a : Nat × (Nat → Nat)) (p : Int × Int) : Nat × (Nat → Nat) := (a.1 + p.1.toNat, cat a.1 a.2 (numF p.1.toNat p.2))
def bytesN (l : List (Int × Int)) : Nat × (Nat → Nat) := l.foldl stepN (0, zeroK)
theorem bytes_next {l : List (Int × Int)} {k : Nat} (hk : k < l.length) : bytesN (l.take (k + 1)) = stepN (bytesN (l.take k)) (atR l k) := by
  rw [take_snocR hk]; unfold bytesN; rw [List.foldl_append]; rfl
theorem fold_len : ∀ (l : List (Int × Int)) (a : Nat × (Nat → Nat)), (∀ p ∈ l, p.1.toNat ≤ 8) → (l.foldl stepN a).1 ≤ a.1 + 8 * l.length
  | [], a, _ => by simp
  | p :: l, a, h => by
    have h1 := fold_len l (stepN a p) (fun q hq => h q (List.mem_cons_of_mem _ hq))
    have h2 := h p List.mem_cons_self
    rw [List.foldl_cons, List.length_cons]
    have h3 : (stepN a p).1 = a.1 + p.1.toNat := rfl
    omega
theorem fold_lt : ∀ (l : List (Int × Int)) (a : Nat × (Nat → Nat)), (∀ j, a.2 j < 256) → ∀ j, (l.foldl stepN a).2 j < 256
  | [], a, h => h
  | p :: l, a, h => fold_lt l (stepN a p) fun j => by
    show cat a.1 a.2 (numF p.1.toNat p.2) j < 256
    unfold cat; split
    · exact h j
    · exact numF_lt _ _ _
theorem bytes_lt (l : List (Int × Int)) (j : Nat) : (bytesN l).2 j < 256 := fold_lt l _ (fun j => by show (0 : Nat) < 256; omega) j
/-- The numbers lie one behind the other, from a place on. -/
def Laid (F : Nat → Nat) : Nat → List (Int × Int) → Prop
  | _, [] => True
  | m, p :: l => (∀ j, j < p.1.toNat → F (m + j) = numF p.1.toNat p.2 j) ∧ Laid F (m + p.1.toNat) l
def sizeL : List (Int × Int) → Nat
  | [] => 0
  | p :: l => p.1.toNat + sizeL l
theorem fold_size : ∀ (l : List (Int × Int)) (a : Nat × (Nat → Nat)), (l.foldl stepN a).1 = a.1 + sizeL l
  | [], a => by simp [sizeL]
  | p :: l, a => by
    rw [List.foldl_cons, fold_size l]
    show a.1 + p.1.toNat + sizeL l = a.1 + (p.1.toNat + sizeL l)
    omega
theorem fold_laid : ∀ (l : List (Int × Int)) (a : Nat × (Nat → Nat)), (∀ j, j < a.1 → (l.foldl stepN a).2 j = a.2 j) ∧ Laid (l.foldl stepN a).2 a.1 l
  | [], a => ⟨fun _ _ => rfl, trivial⟩
  | p :: l, a => by
    obtain ⟨h1, h2⟩ := fold_laid l (stepN a p)
    have e : (stepN a p).1 = a.1 + p.1.toNat := rfl
    have c : ∀ j, (stepN a p).2 j = if j < a.1 then a.2 j else numF p.1.toNat p.2 (j - a.1) := fun j => rfl
    rw [List.foldl_cons]
    refine ⟨fun j hj => ?_, fun j hj => ?_, ?_⟩
    · rw [h1 j (by omega), c, if_pos hj]
    · rw [h1 (a.1 + j) (by omega), c, if_neg (by omega), Nat.add_sub_cancel_left]
    · rw [← e]; exact h2
theorem laid_ext {F G : Nat → Nat} : ∀ (l : List (Int × Int)) (m : Nat), (∀ j, j < m + sizeL l → F j = G j) → Laid F m l → Laid G m l
  | [], _, _, _ => trivial
  | p :: l, m, h, hl => by
    have e : sizeL (p :: l) = p.1.toNat + sizeL l := rfl
    exact ⟨fun j hj => (h (m + j) (by omega)).symm.trans (hl.1 j hj), laid_ext l _ (fun j hj => h j (by omega)) hl.2⟩
theorem laid_append {F : Nat → Nat} : ∀ (a b : List (Int × Int)) (m : Nat), Laid F m (a ++ b) → Laid F m a ∧ Laid F (m + sizeL a) b
  | [], b, m, h => ⟨trivial, h⟩
  | p :: a, b, m, h => by
    obtain ⟨h1, h2⟩ := laid_append a b _ h.2
    refine ⟨⟨h.1, h1⟩, ?_⟩
    have e : sizeL (p :: a) = p.1.toNat + sizeL a := rfl
    rw [e, ← Nat.add_assoc]; exact h2
/-- A number told from its bytes. -/
theorem laid_val {F : Nat → Nat} {m s : Nat} {z : Int} (h : ∀ j, j < s → F (m + j) = numF s z j) (hs : IsSize s) (hz : fitsN s z) (hb : okI z) : IntKind.i64.wrap (valN s (fun j => F (m + j)) : Nat) = z := by
  rw [valN_ext s (g' := numF s z) h]; exact val_fits hs hz hb
/-- The sector of reservations. -/
def noteL (r : ResvOf) : Nat := (bytesN (numsR r)).1
def noteF (r : ResvOf) : Nat → Nat := extF (noteL r) (bytesN (numsR r)).2
theorem note_lt (r : ResvOf) (j : Nat) : noteF r j < 256 := by
  unfold noteF extF; split
  · exact bytes_lt _ j
  · omega
theorem sizeL_append : ∀ a b : List (Int × Int), sizeL (a ++ b) = sizeL a + sizeL b
  | [], b => by simp [sizeL]
  | p :: a, b => by
    rw [List.cons_append]; show p.1.toNat + sizeL (a ++ b) = p.1.toNat + sizeL a + sizeL b
    rw [sizeL_append a b]; omega
def pairsR (ks : List (Int × Int)) : List (Int × Int) := ks.flatMap fun p => [(8, p.1), (8, p.2)]
theorem pairs_size : ∀ ks : List (Int × Int), sizeL (pairsR ks) = 16 * ks.length
  | [] => rfl
  | p :: ks => by
    have h := pairs_size ks
    show sizeL ([(8, p.1), (8, p.2)] ++ pairsR ks) = _
    rw [sizeL_append, h, List.length_cons]
    show 8 + (8 + 0) + _ = _
    omega
theorem pairs_len : ∀ ks : List (Int × Int), (pairsR ks).length = 2 * ks.length
  | [] => rfl
  | p :: ks => by
    have h := pairs_len ks
    show (pairsR ks).length + 1 + 1 = 2 * (ks.length + 1)
    omega
theorem nums_len (r : ResvOf) : (numsR r).length = 5 + 2 * r.regs.length := by
  show (_ ++ pairsR r.regs).length = _
  rw [List.length_append, pairs_len]; rfl
theorem note_len (r : ResvOf) : noteL r = 19 + 16 * r.regs.length := by
  show ((numsR r).foldl stepN (0, zeroK)).1 = _
  rw [fold_size]
  show 0 + sizeL (_ ++ pairsR r.regs) = _
  rw [sizeL_append, pairs_size, Nat.zero_add]; rfl
theorem note_laid (r : ResvOf) : Laid (noteF r) 0 (numsR r) := by
  refine laid_ext (numsR r) 0 (fun j hj => ?_) (fold_laid (numsR r) (0, zeroK)).2
  unfold noteF extF
  rw [if_pos (by have h := fold_size (numsR r) (0, zeroK); show j < ((numsR r).foldl stepN (0, zeroK)).1; rw [h]; exact hj)]; rfl
theorem pairs_laid {F : Nat → Nat} : ∀ (ks : List (Int × Int)) (m i : Nat), Laid F m (pairsR ks) → i < ks.length → (∀ j, j < 8 → F (m + 16 * i + j) = numF 8 (atR ks i).1 j) ∧ (∀ j, j < 8 → F (m + 16 * i + 8 + j) = numF 8 (atR ks i).2 j)
  | [], m, i, _, hi => by simp at hi
  | p :: ks, m, 0, h, _ => by
    have h' : Laid F m ((8, p.1) :: (8, p.2) :: pairsR ks) := h
    refine ⟨fun j hj => ?_, fun j hj => ?_⟩
    · exact h'.1 j hj
    · exact h'.2.1 j hj
  | p :: ks, m, i + 1, h, hi => by
    have h' : Laid F m ((8, p.1) :: (8, p.2) :: pairsR ks) := h
    have ih := pairs_laid ks (m + 8 + 8) i h'.2.2 (by simpa using hi)
    rw [show m + 8 + 8 + 16 * i = m + 16 * (i + 1) by omega] at ih
    exact ih
/-- What the numbers of a note are. -/
structure NumOk (p : Int × Int) : Prop where
  size : IsSize p.1.toNat
  nat : (p.1.toNat : Int) = p.1
  fits : fitsN p.1.toNat p.2
theorem numOk8 (z : Int) : NumOk (8, z) := ⟨.inr (.inr (.inr rfl)), rfl, .inl rfl⟩
theorem numOk1 {z : Int} (h : 0 ≤ z ∧ z < 256) : NumOk (1, z) := ⟨.inl rfl, rfl, .inr ⟨h.1, by rw [show (256 : Int) ^ (((1 : Int), z).1.toNat) = 256 from rfl]; exact h.2⟩⟩
theorem nums_ok {r : ResvOf} (g : GoodR r) : ∀ p ∈ numsR r, NumOk p := by
  have hf := g.few
  have ht : 0 ≤ r.t ∧ r.t < 256 := by rcases g.form with h | h <;> omega
  intro p hp
  rcases List.mem_append.1 hp with h | h
  · simp only [List.mem_cons, List.not_mem_nil, or_false] at h
    rcases h with rfl | rfl | rfl | rfl | rfl
    · exact numOk8 _
    · exact numOk1 (by split <;> omega)
    · exact numOk1 ht
    · exact numOk1 (by omega)
    · exact numOk8 _
  · obtain ⟨q, hq, hp2⟩ := List.mem_flatMap.1 h
    simp only [List.mem_cons, List.not_mem_nil, or_false] at hp2
    rcases hp2 with rfl | rfl
    · exact numOk8 _
    · exact numOk8 _
theorem take_few {r : ResvOf} (g : GoodR r) (k : Nat) : (bytesN ((numsR r).take k)).1 ≤ 104 := by
  have h := fold_len ((numsR r).take k) (0, zeroK) (fun p hp => by
    have hs := (nums_ok g p (List.mem_of_mem_take hp)).size
    unfold IsSize at hs; omega)
  have hl : ((numsR r).take k).length ≤ 13 := by
    have h1 := nums_len r
    have h2 := g.few
    have h3 := List.length_take_le k (numsR r)
    rw [List.length_take]; omega
  show (((numsR r).take k).foldl stepN (0, zeroK)).1 ≤ 104
  omega
end Go.Proofs.Ytfnkdmdcjliebaa

/- Slices of numbers and of ints that are built with elements in them. Conditions: as each says. -/
namespace Go.Proofs.Ytfnkdmdcjliebaa
open Go.ChangeShapes Go.WideShapes Go.ChangeAt Go.RowKit
set_option linter.unusedVariables false
set_option linter.unusedSimpArgs false
abbrev nmT : TypeId := 79
abbrev nmS : TypeId := 76
theorem nmSize : (Try.prog.info? nmT).map (·.size) = some 2 := by kernel_rfl
theorem nmZero : (Try.prog.info? nmT).bind (·.zero) = some regZ := by kernel_rfl
theorem elemNm : ElemOf Try.prog nmS nmT 2 16 regC where
  under := Try.underlying76
  size := nmSize
  bytes := by kernel_rfl
  zero := ⟨regZ, nmZero, by kernel_rfl⟩
  len := fun _ => rfl
  one := fun c u hu => by
    simp [regC] at hu
    rcases hu with rfl | rfl <;> rfl
  pos := by decide
theorem nm_built (a b : Int) : Try.prog.built nmT [(0, .int .i64 a), (1, .int .i64 b)] = some (regA (a, b)) := by kernel_rfl
theorem rows_laid {α : Type} {sz : Nat} {C : α → List Value} (hC : ∀ c, (C c).length = sz) (w : World) (e : TypeId) (l : List α) : RowsAt sz C (w.alloc (.cells (l.flatMap C).toArray e)) (some ⟨w.heap.size, 0, none⟩) l :=
  .inr ⟨w.heap.size, 0, rfl, by simp, fun i d hd j v hv => by
    rw [cell_of_row _ _ _ _ _ _ (heap_alloc_new w (.cells (l.flatMap C).toArray e))]
    have hj : j < sz := by
      have := (List.getElem?_eq_some_iff.1 hv).1
      rw [hC] at this; exact this
    have h := flatMap_at hC l i j d hd hj
    rw [List.getElem?_toArray, Nat.zero_add, Nat.mul_comm, h]; exact hv⟩
theorem own_laid {α : Type} {sz : Nat} {C : α → List Value} (hC : ∀ c, (C c).length = sz) (w : World) (e : TypeId) (l : List α) (n : Nat) (hn : l.length = n) (hl : n ≤ 1000) : OwnL e sz C (w.alloc (.cells (l.flatMap C).toArray e)) w.heap.size (w.heap.size + 1) (.slice (some ⟨w.heap.size, 0, none⟩) n n) l :=
  .inr ⟨w.heap.size, n, (l.flatMap C).toArray, by rw [hn], Nat.le_refl _, by omega, heap_alloc_new _ _, by omega, by simp only [maxLen]; omega, by rw [List.size_toArray, flatMap_len hC, hn], by
    show (l.flatMap C).toArray.toList.take _ = _
    have h := flatMap_len hC l
    exact List.take_of_length_le (by simp only; omega)⟩
theorem fill_int2 (a b : Int) : Instr.fill (fun i => some (i * 1, 1)) ((Array.range (2 * 1)).map ((Value.int .i64 0).cells[· % (Value.int .i64 0).cells.size]!)) [(0, .int .i64 a), (1, .int .i64 b)] = some ([a, b].flatMap intC).toArray := by kernel_rfl
theorem fill_int4 (a b c d : Int) : Instr.fill (fun i => some (i * 1, 1)) ((Array.range (4 * 1)).map ((Value.int .i64 0).cells[· % (Value.int .i64 0).cells.size]!)) [(0, .int .i64 a), (1, .int .i64 b), (2, .int .i64 c), (3, .int .i64 d)] = some ([a, b, c, d].flatMap intC).toArray := by kernel_rfl
theorem fill_int5 (a b c d e : Int) : Instr.fill (fun i => some (i * 1, 1)) ((Array.range (5 * 1)).map ((Value.int .i64 0).cells[· % (Value.int .i64 0).cells.size]!)) [(0, .int .i64 a), (1, .int .i64 b), (2, .int .i64 c), (3, .int .i64 d), (4, .int .i64 e)] = some ([a, b, c, d, e].flatMap intC).toArray := by kernel_rfl
theorem fill_int10 (a b c d e f g h i j : Int) : Instr.fill (fun i => some (i * 1, 1)) ((Array.range (10 * 1)).map ((Value.int .i64 0).cells[· % (Value.int .i64 0).cells.size]!)) [(0, .int .i64 a), (1, .int .i64 b), (2, .int .i64 c), (3, .int .i64 d), (4, .int .i64 e), (5, .int .i64 f), (6, .int .i64 g), (7, .int .i64 h), (8, .int .i64 i), (9, .int .i64 j)] = some ([a, b, c, d, e, f, g, h, i, j].flatMap intC).toArray := by kernel_rfl
theorem fill_nm2 (p q : Int × Int) : Instr.fill (fun i => some (i * 2, 2)) ((Array.range (2 * 2)).map ((#[.int .i64 0, .int .i64 0] : Array Value)[· % (#[.int .i64 0, .int .i64 0] : Array Value).size]!)) [(0, .agg (regA p)), (1, .agg (regA q))] = some ([p, q].flatMap regC).toArray := by kernel_rfl
theorem fill_nm5 (p q r s t : Int × Int) : Instr.fill (fun i => some (i * 2, 2)) ((Array.range (5 * 2)).map ((#[.int .i64 0, .int .i64 0] : Array Value)[· % (#[.int .i64 0, .int .i64 0] : Array Value).size]!)) [(0, .agg (regA p)), (1, .agg (regA q)), (2, .agg (regA r)), (3, .agg (regA s)), (4, .agg (regA t))] = some ([p, q, r, s, t].flatMap regC).toArray := by kernel_rfl
theorem run_intsL (n : Nat) (hn : n ≠ 0) (hl : n ≤ 1000) (xs : Array (Nat × Value)) (l : List Int) (w : World)
    (hf : Instr.fill (fun i => some (i * 1, 1)) ((Array.range (n * 1)).map ((Value.int .i64 0).cells[· % (Value.int .i64 0).cells.size]!)) xs.toList = some (l.flatMap intC).toArray) :
    (Instr.buildSlice 65 n xs).run Try.prog w = .ok (.slice (some ⟨w.heap.size, 0, none⟩) n n) (w.alloc (.cells (l.flatMap intC).toArray 3)) := by
  have hi : (Try.prog.info? 3).map (·.size) = some 1 := by kernel_rfl
  have hz : (Try.prog.info? 3).bind (·.zero) = some (.int .i64 0) := by kernel_rfl
  cases hq : Try.prog.info? 3 with
  | none => rw [hq] at hi; simp at hi
  | some i =>
    rw [hq] at hi hz
    have hs : i.size = 1 := by simpa using hi
    have hzz : i.zero = some (.int .i64 0) := by simpa using hz
    refine run_buildSlice w 65 3 n _ _ i _ Try.underlying65 hq hzz (by rw [hs]; omega) (by rw [hs]; omega) ?_
    rw [hs]; exact hf
theorem run_nmsL (n : Nat) (hn : n ≠ 0) (hl : n ≤ 1000) (xs : Array (Nat × Value)) (l : List (Int × Int)) (w : World)
    (hf : Instr.fill (fun i => some (i * 2, 2)) ((Array.range (n * 2)).map ((#[.int .i64 0, .int .i64 0] : Array Value)[· % (#[.int .i64 0, .int .i64 0] : Array Value).size]!)) xs.toList = some (l.flatMap regC).toArray) :
    (Instr.buildSlice nmS n xs).run Try.prog w = .ok (.slice (some ⟨w.heap.size, 0, none⟩) n n) (w.alloc (.cells (l.flatMap regC).toArray nmT)) := by
  have hi := nmSize
  have hz := nmZero
  cases hq : Try.prog.info? nmT with
  | none => rw [hq] at hi; simp at hi
  | some i =>
    rw [hq] at hi hz
    have hs : i.size = 2 := by simpa using hi
    have hzz : i.zero = some regZ := by simpa using hz
    refine run_buildSlice w nmS nmT n _ _ i _ elemNm.under hq hzz (by rw [hs]; omega) (by rw [hs]; omega) ?_
    rw [hs]; exact hf
section
variable {ops : Array Oper} {rest : List Oper} {o : Oper} {a : Act} {w : World} {Q : Exit → Act → World → Prop}
theorem wpList_intsL (hgd : o.guard = none) (n : Nat) (xs : Array (Nat × Operand)) (ho : o.op = .buildSlice 65 n xs) (ys : List (Nat × Value)) (hx : xs.toList.map (fun (i, x) => (i, a.eval x)) = ys) (l : List (Int)) (hn : l.length = n) (hn0 : n ≠ 0) (hl : n ≤ 1000)
    (hf : Instr.fill (fun i => some (i * 1, 1)) ((Array.range (n * 1)).map ((Value.int .i64 0).cells[· % (Value.int .i64 0).cells.size]!)) ys = some (l.flatMap intC).toArray)
    (h : ∀ w', OwnL 3 1 intC w' w.heap.size w'.heap.size (.slice (some ⟨w.heap.size, 0, none⟩) n n) l → Below w.heap.size w w' → w'.heap.size = w.heap.size + 1 → wpList Try.prog ops Q rest (a.put o.dst (.slice (some ⟨w.heap.size, 0, none⟩) n n)) w') : wpList Try.prog ops Q (o :: rest) a w :=
  wpList_plain hgd fun _ hK => by
    have e := run_intsL n hn0 hl ys.toArray l w hf
    have hx2 : xs.map (fun (i, x) => (i, a.eval x)) = ys.toArray := by rw [← hx]; apply Array.ext'; simp
    unfold Oper.wp execOp
    simp only [ho]
    rw [Sem.run_bind, hx2, e]
    exact hK _ _ (h _ (by rw [World.size_alloc]; exact own_laid elemInt.len w _ l n hn hl) ((Below.refl _ _).alloc (Nat.le_refl _) _) (World.size_alloc _ _))
theorem done_intsL {K : Value → World → Prop} (n : Nat) (xs : Array (Nat × Operand)) (ho : o.op = .buildSlice 65 n xs) (ys : List (Nat × Value)) (hx : xs.toList.map (fun (i, x) => (i, a.eval x)) = ys) (l : List (Int)) (hn : l.length = n) (hn0 : n ≠ 0) (hl : n ≤ 1000)
    (hf : Instr.fill (fun i => some (i * 1, 1)) ((Array.range (n * 1)).map ((Value.int .i64 0).cells[· % (Value.int .i64 0).cells.size]!)) ys = some (l.flatMap intC).toArray)
    (h : ∀ w', OwnL 3 1 intC w' w.heap.size w'.heap.size (.slice (some ⟨w.heap.size, 0, none⟩) n n) l → Below w.heap.size w w' → w'.heap.size = w.heap.size + 1 → K (.slice (some ⟨w.heap.size, 0, none⟩) n n) w') : doneAt Try.prog o a w K := by
  have e := run_intsL n hn0 hl ys.toArray l w hf
  have hx2 : xs.map (fun (i, x) => (i, a.eval x)) = ys.toArray := by rw [← hx]; apply Array.ext'; simp
  have hh := h _ (by rw [World.size_alloc]; exact own_laid elemInt.len w _ l n hn hl) ((Below.refl _ _).alloc (Nat.le_refl _) _) (World.size_alloc _ _)
  unfold doneAt execOp
  simp only [ho]
  rw [Sem.run_bind, hx2, e]
  exact hh
theorem wpList_nmsL (hgd : o.guard = none) (n : Nat) (xs : Array (Nat × Operand)) (ho : o.op = .buildSlice nmS n xs) (ys : List (Nat × Value)) (hx : xs.toList.map (fun (i, x) => (i, a.eval x)) = ys) (l : List (Int × Int)) (hn : l.length = n) (hn0 : n ≠ 0) (hl : n ≤ 1000)
    (hf : Instr.fill (fun i => some (i * 2, 2)) ((Array.range (n * 2)).map ((#[.int .i64 0, .int .i64 0] : Array Value)[· % (#[.int .i64 0, .int .i64 0] : Array Value).size]!)) ys = some (l.flatMap regC).toArray)
    (h : ∀ w', OwnL nmT 2 regC w' w.heap.size w'.heap.size (.slice (some ⟨w.heap.size, 0, none⟩) n n) l → Below w.heap.size w w' → w'.heap.size = w.heap.size + 1 → wpList Try.prog ops Q rest (a.put o.dst (.slice (some ⟨w.heap.size, 0, none⟩) n n)) w') : wpList Try.prog ops Q (o :: rest) a w :=
  wpList_plain hgd fun _ hK => by
    have e := run_nmsL n hn0 hl ys.toArray l w hf
    have hx2 : xs.map (fun (i, x) => (i, a.eval x)) = ys.toArray := by rw [← hx]; apply Array.ext'; simp
    unfold Oper.wp execOp
    simp only [ho]
    rw [Sem.run_bind, hx2, e]
    exact hK _ _ (h _ (by rw [World.size_alloc]; exact own_laid elemNm.len w _ l n hn hl) ((Below.refl _ _).alloc (Nat.le_refl _) _) (World.size_alloc _ _))
theorem done_nmsL {K : Value → World → Prop} (n : Nat) (xs : Array (Nat × Operand)) (ho : o.op = .buildSlice nmS n xs) (ys : List (Nat × Value)) (hx : xs.toList.map (fun (i, x) => (i, a.eval x)) = ys) (l : List (Int × Int)) (hn : l.length = n) (hn0 : n ≠ 0) (hl : n ≤ 1000)
    (hf : Instr.fill (fun i => some (i * 2, 2)) ((Array.range (n * 2)).map ((#[.int .i64 0, .int .i64 0] : Array Value)[· % (#[.int .i64 0, .int .i64 0] : Array Value).size]!)) ys = some (l.flatMap regC).toArray)
    (h : ∀ w', OwnL nmT 2 regC w' w.heap.size w'.heap.size (.slice (some ⟨w.heap.size, 0, none⟩) n n) l → Below w.heap.size w w' → w'.heap.size = w.heap.size + 1 → K (.slice (some ⟨w.heap.size, 0, none⟩) n n) w') : doneAt Try.prog o a w K := by
  have e := run_nmsL n hn0 hl ys.toArray l w hf
  have hx2 : xs.map (fun (i, x) => (i, a.eval x)) = ys.toArray := by rw [← hx]; apply Array.ext'; simp
  have hh := h _ (by rw [World.size_alloc]; exact own_laid elemNm.len w _ l n hn hl) ((Below.refl _ _).alloc (Nat.le_refl _) _) (World.size_alloc _ _)
  unfold doneAt execOp
  simp only [ho]
  rw [Sem.run_bind, hx2, e]
  exact hh
theorem gives_nm {C : World → Prop} {K : Act → Prop} (x y : Operand) (ho : o.op = .build nmT #[(0, x), (1, y)]) (i j : Int) (hx : a.eval x = .int .i64 i) (hy : a.eval y = .int .i64 j) (hk : K (a.put o.dst (.agg (regA (i, j))))) : ∃ v, Gives Try.prog C o a v ∧ K (a.put o.dst v) :=
  gives_build_any nmT _ #[(0, .int .i64 i), (1, .int .i64 j)] _ ho (by simp [hx, hy]) (fun w => run_build w nmT #[(0, .int .i64 i), (1, .int .i64 j)] _ (nm_built i j)) hk
theorem gives_reg {C : World → Prop} {K : Act → Prop} (x y : Operand) (ho : o.op = .build rgT #[(0, x), (1, y)]) (i j : Int) (hx : a.eval x = .int .i64 i) (hy : a.eval y = .int .i64 j) (hk : K (a.put o.dst (.agg (regA (i, j))))) : ∃ v, Gives Try.prog C o a v ∧ K (a.put o.dst v) :=
  gives_build_any rgT _ #[(0, .int .i64 i), (1, .int .i64 j)] _ ho (by simp [hx, hy]) (fun w => run_build w rgT #[(0, .int .i64 i), (1, .int .i64 j)] _ (reg_built i j)) hk
theorem wpList_nms_grow (hgd : o.guard = none) (s x : Operand) (ho : o.op = .call { callee := .builtin .append, args := #[s, x], argTypes := #[nmS, nmS] }) (base top : Nat) (v : Value) (l m : List (Int × Int)) (p : Option Addr) (n c : Nat) (hs : a.eval s = v) (hx : a.eval x = .slice p n c) (hn : n = m.length)
    (hv : OwnL nmT 2 regC w base top v l) (hm : RowsAt 2 regC w p m) (hk : l.length + m.length ≤ 4000000) (hbase : base ≤ w.heap.size)
    (h : ∀ v' w', OwnL nmT 2 regC w' base w'.heap.size v' (l ++ m) → Below base w w' → wpList Try.prog ops Q rest (a.put o.dst v') w') : wpList Try.prog ops Q (o :: rest) a w :=
  wpList_append_list elemNm hgd s x ho base top v l m p n c hs hx hn hv hm hk (by decide) hbase fun v' w' h1 h2 h3 => h v' w' h1 (below_own1 h2 hv.block hbase)
theorem done_grow {α : Type} {K : Value → World → Prop} {t e : TypeId} {sz by' : Nat} {C : α → List Value} (E : ElemOf Try.prog t e sz by' C) (s x : Operand) (ho : o.op = .call { callee := .builtin .append, args := #[s, x], argTypes := #[t, t] }) (base top : Nat) (v : Value) (l m : List α) (p : Option Addr) (n c : Nat) (hs : a.eval s = v) (hx : a.eval x = .slice p n c) (hn : n = m.length)
    (hv : OwnL e sz C w base top v l) (hm : RowsAt sz C w p m) (hk : l.length + m.length ≤ 4000000) (hby : by' ≤ 1000) (hbase : base ≤ w.heap.size)
    (h : ∀ v' w', OwnL e sz C w' base w'.heap.size v' (l ++ m) → Below base w w' → K v' w') : doneAt Try.prog o a w K :=
  done_append_list E s x ho base top v l m p n c hs hx hn hv hm hk hby hbase fun v' w' h1 h2 h3 => h v' w' h1 (below_own1 h2 hv.block hbase)
theorem done_regs1 {K : Value → World → Prop} (x : Operand) (ho : o.op = .buildSlice rgS 1 #[(0, x)]) (p : Int × Int) (hx : a.eval x = .agg (regA p))
    (h : ∀ w', RowsAt 2 regC w' (some ⟨w.heap.size, 0, none⟩) [p] → Below w.heap.size w w' → w'.heap.size = w.heap.size + 1 → K (.slice (some ⟨w.heap.size, 0, none⟩) 1 1) w') : doneAt Try.prog o a w K := by
  have e := run_reg1 p w
  have hh := h _ (rows_reg1 w p) ((Below.refl _ _).alloc (Nat.le_refl _) _) (World.size_alloc _ _)
  unfold doneAt execOp
  simp only [ho]
  simp [hx, e, doneUpon]
  exact hh
theorem done_boxA_slice {K : Value → World → Prop} {T : TypeId} {A : Array Value} (x y : Operand) (ho : o.op = .store rgS x y) (O k : Nat) (p : Option Addr) (m e : Nat) (hx : a.eval x = .pointer (some ⟨O, k, none⟩)) (hy : a.eval y = .slice p m e) (hO : BoxA w O T A) (hk : k < A.size)
    (h : ∀ w', BoxA w' O T (A.setIfInBounds k (.slice p m e)) → Keeps (fun j => j = O) w w' → w'.heap.size = w.heap.size → K undef w') : doneAt Try.prog o a w K := by
  have hc : w.cell? ⟨O, k, none⟩ = some A[k] := (hO.cell k).trans (Array.getElem?_eq_getElem hk)
  have hf := hO.free k
  have hh := h _ (hO.set k (.slice p m e)) ((Keeps.refl (fun j => j = O) w).setCell rfl k (.slice p m e)) (by simp [World.setCell])
  unfold doneAt execOp
  simp only [ho, hx, hy]
  simp [go_sem, hc, hf, doneUpon]
  exact hh
end
end Go.Proofs.Ytfnkdmdcjliebaa

/- The contract of the program's numbers: what a note says. Conditions: the registrations lie in memory, at most 1000. -/
namespace Go.Proofs.Ytfnkdmdcjliebaa
open Go.ChangeShapes Go.WideShapes Go.ChangeAt Go.RowKit
set_option linter.unusedVariables false
set_option linter.unusedSimpArgs false
/-- Between two rounds: the list lies in memory of its own, the struct in its box. -/
structure NmP (e : TypeId) {α : Type} (sz : Nat) (C : α → List Value) (w : World) (b : Nat) (A : Array Value) (l : List α) (v : Value) (V : World) : Prop where
  own : OwnL e sz C V (w.heap.size + b) V.heap.size v l
  box : BoxA V w.heap.size rvT A
  low : Below w.heap.size w V
  big : w.heap.size + b ≤ V.heap.size
theorem NmP.mono {e : TypeId} {α : Type} {sz b : Nat} {C : α → List Value} {w V V' : World} {A : Array Value} {l : List α} {v : Value} (h : NmP e sz C w b A l v V) (hb : Below V.heap.size V V') : NmP e sz C w b A l v V' :=
  ⟨(h.own.below (Nat.le_refl _) hb).raise hb.size, h.box.keep (hb.block _ h.box.lt), h.low.trans (hb.mono h.low.size), Nat.le_trans h.big hb.size⟩
theorem NmP.push {e : TypeId} {α : Type} {sz b : Nat} {C : α → List Value} {w V V' : World} {A : Array Value} {l l' : List α} {v v' : Value} (h : NmP e sz C w b A l v V) (h0 : 0 < b) (ho : OwnL e sz C V' (w.heap.size + b) V'.heap.size v' l') (hb : Below (w.heap.size + b) V V') : NmP e sz C w b A l' v' V' :=
  ⟨ho, h.box.keep (hb.block _ (by omega)), h.low.trans (hb.mono (by omega)), Nat.le_trans h.big hb.size⟩
theorem pairs_zero (ks : List (Int × Int)) : pairsR (ks.take 0) = [] := rfl
theorem pairs_next {ks : List (Int × Int)} {k : Nat} (hk : k < ks.length) : pairsR (ks.take (k + 1)) = pairsR (ks.take k) ++ [(8, (atR ks k).1), (8, (atR ks k).2)] := by
  rw [take_snocR hk]; unfold pairsR; rw [List.flatMap_append]; rfl
theorem OwnL.rows2 {α : Type} {e : TypeId} {sz base top n c : Nat} {C : α → List Value} {w : World} {q : Option Addr} {l : List α} (hC : ∀ c, (C c).length = sz) (h : OwnL e sz C w base top (.slice q n c) l) : RowsAt sz C w q l := by
  obtain ⟨p, c', hv, -, -, h3, -⟩ := h.rows hC
  cases hv; exact h3
attribute [local irreducible] regC atR pairsR intC
attribute [local go_sem] Oper.semAt_some
set_option maxRecDepth 100000 in
set_option maxHeartbeats 8000000 in
theorem numbers_yes {w : World} {q : Option Addr} {n c : Nat} {r : ResvOf} (hq : RegsAt w q r.regs) (hn : r.regs.length = n) (hl : n ≤ 1000) (hs : r.s = true) :
    Calls Try.prog 42 #[.agg (resvA q n c r)] w fun e w' => ∃ q' m c', e = .returned (.slice q' m c') ∧ OwnL nmT 2 regC w' w.heap.size w'.heap.size (.slice q' m c') (numsR r) ∧ Below w.heap.size w w' := by
  have HR := Lib.hid (fun i (hi : i < r.regs.length) => regs_at hq (k := i) hi)
  have HN := Lib.hid (fun i (hi : i < r.regs.length) => pairs_next (ks := r.regs) hi)
  have HLN := Lib.hid (fun i => pairs_len (r.regs.take i))
  have HA := Lib.hid (show pairsR (r.regs.take n) = pairsR r.regs by rw [List.take_of_length_le (by omega)])
  have HNU := Lib.hid (show numsR r = [(8, r.g), (1, 1), (1, r.t), (1, (n : Int)), (8, IntKind.i64.wrap (r.h + 1))] ++ pairsR r.regs by rw [← hn]; unfold numsR pairsR; rw [hs]; rfl)
  have HL := Lib.hid hl
  have HS := Lib.hid hs
  rw [hn] at HR HN
  clear hq hl hn hs
  obtain ⟨hz, hhz⟩ : ∃ hz, hz = IntKind.i64.wrap (r.h + 1) := ⟨_, rfl⟩
  rw [← hhz] at HNU
  have HHZ := Lib.hid hhz.symm
  clear hhz
  go_enter Try.func42, Try.ntmps42
  go_wp2_with (first
  | (with_reducible show wpList _ _ _ (⟨_, Op.box rvT _, _, _, _, none⟩ :: _) _ _
     refine wpList_boxA_of rfl _ rfl (resvA q n c r) rfl ?_
     intro w1 x1 l1 s1
     have X1 := Lib.hid x1
     have L1 := Lib.hid l1
     have S1 := Lib.hid s1
     obtain ⟨c0, c1, c2, c3, c4⟩ := boxRv x1
     rw [HS.out] at c3
     have hhz := HHZ.out
     clear x1 l1 s1)
  | (with_reducible show wpList _ _ _ (⟨some 10, Op.build nmT _, _, _, _, _⟩ :: _) _ _
     refine wpList_build_any rfl nmT _ #[(0, .int .i64 8), (1, .int .i64 r.g)] _ rfl rfl (fun w => run_build w nmT #[(0, .int .i64 8), (1, .int .i64 r.g)] _ (nm_built 8 r.g)) ?_)
  | (with_reducible show wpList _ _ _ (⟨some 12, Op.build nmT _, _, _, _, _⟩ :: _) _ _
     refine wpList_build_any rfl nmT _ #[(0, .int .i64 1), (1, .int .i64 1)] _ rfl rfl (fun w => run_build w nmT #[(0, .int .i64 1), (1, .int .i64 1)] _ (nm_built 1 1)) ?_)
  | (with_reducible show wpList _ _ _ (⟨some 15, Op.build nmT _, _, _, _, _⟩ :: _) _ _
     refine wpList_build_any rfl nmT _ #[(0, .int .i64 1), (1, .int .i64 r.t)] _ rfl rfl (fun w => run_build w nmT #[(0, .int .i64 1), (1, .int .i64 r.t)] _ (nm_built 1 r.t)) ?_)
  | (with_reducible show wpList _ _ _ (⟨some 19, Op.build nmT _, _, _, _, _⟩ :: _) _ _
     refine wpList_build_any rfl nmT _ #[(0, .int .i64 1), (1, .int .i64 (n : Int))] _ rfl rfl (fun w => run_build w nmT #[(0, .int .i64 1), (1, .int .i64 (n : Int))] _ (nm_built 1 (n : Int))) ?_)
  | (with_reducible show wpList _ _ _ (⟨some 23, Op.build nmT _, _, _, _, _⟩ :: _) _ _
     refine wpList_build_any rfl nmT _ #[(0, .int .i64 8), (1, .int .i64 hz)] _ rfl rfl (fun w => run_build w nmT #[(0, .int .i64 8), (1, .int .i64 hz)] _ (nm_built 8 hz)) ?_)
  | (with_reducible show wpList _ _ _ (⟨_, Op.buildSlice nmS _ _, _, _, _, none⟩ :: _) _ _
     refine wpList_nmsL rfl 5 _ rfl [(0, .agg (regA (8, r.g))), (1, .agg (regA (1, 1))), (2, .agg (regA (1, r.t))), (3, .agg (regA (1, (n : Int)))), (4, .agg (regA (8, hz)))] rfl [(8, r.g), (1, 1), (1, r.t), (1, (n : Int)), (8, hz)] rfl (by decide) (by decide) (fill_nm5 (8, r.g) (1, 1) (1, r.t) (1, (n : Int)) (8, hz)) ?_
     intro w2 o2 l2 s2
     have PB0 := Lib.hid (show NmP nmT 2 regC w 1 (resvA q n c r) [(8, r.g), (1, 1), (1, r.t), (1, (n : Int)), (8, hz)] (.slice (some ⟨w1.heap.size, 0, none⟩) 5 5) w2 from ⟨by have h := S1.out; rw [← h]; exact o2, X1.out.keep (l2.block _ X1.out.lt), L1.out.trans (l2.mono L1.out.size), by have h := S1.out; have h2 := l2.size; omega⟩)
     obtain ⟨c0, c1, c2, c3, c4⟩ := boxRv PB0.out.box
     clear o2 l2 s2 X1 L1 S1 hhz))
  go_loopw [28, 4] (fun v28 v4 wr => ∃ k : Nat, k ≤ n ∧ v28 = .int .i64 k ∧ NmP nmT 2 regC w 1 (resvA q n c r) ([(8, r.g), (1, 1), (1, r.t), (1, (n : Int)), (8, hz)] ++ pairsR (r.regs.take k)) v4 wr) (fun v28 _ _ => n - (intOf v28).toNat)
  case atStart => exact ⟨0, Nat.zero_le _, rfl, by rw [pairs_zero, List.append_nil]; exact PB0.out⟩
  case round =>
    obtain ⟨k, hk, rfl, hp⟩ := hrel
    have HPW := Lib.hid hp
    obtain ⟨c0, c1, c2, c3, c4⟩ := boxRv hp.box
    have HLK := Lib.hid (HLN.out k)
    have HLE := Lib.hid (show ([(8, r.g), (1, 1), (1, r.t), (1, (n : Int)), (8, hz)] ++ pairsR (r.regs.take k)).length ≤ 3000 by have h := HLN.out k; have h2 := HL.out; rw [List.length_append, h, List.length_take]; simp; omega)
    clear hp PB0 HLN
    by_cases hlt : k < n
    · have f1 : (k : Int) < (n : Int) := by omega
      have HLT := Lib.hid hlt
      have f3 : IntKind.i64.wrap ((k : Int) + 1) = ((k + 1 : Nat) : Int) := by have := HL.out; rw [IntWalk.i64_in _ (by omega)]; omega
      obtain ⟨QB, qo, rfl, hQB, hrg⟩ := HR.out k hlt
      have HN1 := Lib.hid (HN.out k hlt)
      have HRG := Lib.hid (fun (W : World) (hb : Below w.heap.size w W) => rangeAt_below hrg hb hQB)
      clear hlt hk HR HN hrg hQB
      generalize atR r.regs k = p at *
      obtain ⟨pw, pk⟩ := p
      have HL2 := Lib.hid (show [(8, r.g), (1, 1), (1, r.t), (1, (n : Int)), (8, hz)] ++ pairsR (r.regs.take (k + 1)) = ([(8, r.g), (1, 1), (1, r.t), (1, (n : Int)), (8, hz)] ++ pairsR (r.regs.take k)) ++ [(8, pw), (8, pk)] by rw [HN1.out, List.append_assoc])
      generalize [(8, r.g), (1, 1), (1, r.t), (1, (n : Int)), (8, hz)] ++ pairsR (r.regs.take k) = L at *
      clear HN1 HLK
      go_wp2
      refine wp_region_sched [(0, true), (1, true), (2, true), (3, true), (4, true), (5, true), (6, true), (7, true), (8, true), (9, true), (10, true), (11, true), (12, true), (13, true), (14, true), (15, false), (16, false), (17, true)] (fun V => Below (w.heap.size + 1) wr V) (by kernel_rfl) (by kernel_rfl) (Below.refl _ wr).drew ?_
      refine walk_float rfl rfl (fun K hK => ?_)
      refine gives_move _ rfl ?_
      go_simp
      refine hK _ ?_
      clear hK K
      refine walk_float rfl rfl (fun K hK => ?_)
      refine gives_rvfield _ 0 rfl (by decide) w.heap.size rfl ?_
      go_simp
      refine hK _ ?_
      clear hK K
      refine walk_float rfl rfl (fun K hK => ?_)
      refine gives_cell rgS _ rfl ⟨w.heap.size, 0, none⟩ (.slice (some ⟨QB, qo, none⟩) n c) rfl box_regs (fun V hV => (HPW.out.box.keep (hV.block _ (Nat.lt_succ_self _))).cell 0) ?_
      go_simp
      refine hK _ ?_
      clear hK K
      refine walk_float rfl rfl (fun K hK => ?_)
      refine gives_move _ rfl ?_
      go_simp
      refine hK _ ?_
      clear hK K
      refine walk_float rfl rfl (fun K hK => ?_)
      refine gives_reg_elem _ _ rfl QB qo n c k rfl rfl HLT.out ?_
      go_simp
      refine hK _ ?_
      clear hK K
      refine walk_float rfl rfl (fun K hK => ?_)
      refine gives_rg_who _ rfl QB (qo + 2 * k) rfl ?_
      go_simp
      refine hK _ ?_
      clear hK K
      refine walk_float rfl rfl (fun K hK => ?_)
      refine gives_cell 3 _ rfl ⟨QB, (qo + 2 * k), none⟩ (.int .i64 pw) rfl box_int (fun V hV => reg_c0 (HRG.out V (HPW.out.low.trans (hV.mono (Nat.le_succ _))))) ?_
      go_simp
      refine hK _ ?_
      clear hK K
      refine walk_float rfl rfl (fun K hK => ?_)
      refine gives_nm _ _ rfl 8 pw rfl rfl ?_
      go_simp
      refine hK _ ?_
      clear hK K
      refine walk_float rfl rfl (fun K hK => ?_)
      refine gives_rvfield _ 0 rfl (by decide) w.heap.size rfl ?_
      go_simp
      refine hK _ ?_
      clear hK K
      refine walk_float rfl rfl (fun K hK => ?_)
      refine gives_cell rgS _ rfl ⟨w.heap.size, 0, none⟩ (.slice (some ⟨QB, qo, none⟩) n c) rfl box_regs (fun V hV => (HPW.out.box.keep (hV.block _ (Nat.lt_succ_self _))).cell 0) ?_
      go_simp
      refine hK _ ?_
      clear hK K
      refine walk_float rfl rfl (fun K hK => ?_)
      refine gives_move _ rfl ?_
      go_simp
      refine hK _ ?_
      clear hK K
      refine walk_float rfl rfl (fun K hK => ?_)
      refine gives_reg_elem _ _ rfl QB qo n c k rfl rfl HLT.out ?_
      go_simp
      refine hK _ ?_
      clear hK K
      refine walk_float rfl rfl (fun K hK => ?_)
      refine gives_rg_key _ rfl QB (qo + 2 * k) rfl ?_
      go_simp
      refine hK _ ?_
      clear hK K
      refine walk_float rfl rfl (fun K hK => ?_)
      refine gives_cell 3 _ rfl ⟨QB, ((qo + 2 * k) + 1), none⟩ (.int .i64 pk) rfl box_int (fun V hV => reg_c1 (HRG.out V (HPW.out.low.trans (hV.mono (Nat.le_succ _))))) ?_
      go_simp
      refine hK _ ?_
      clear hK K
      refine walk_float rfl rfl (fun K hK => ?_)
      refine gives_nm _ _ rfl 8 pk rfl rfl ?_
      go_simp
      refine hK _ ?_
      clear hK K
      refine walk_done rfl rfl (fun K hK => ?_)
      refine done_nmsL 2 _ rfl [(0, .agg (regA (8, pw))), (1, .agg (regA (8, pk)))] rfl [(8, pw), (8, pk)] rfl (by decide) (by decide) (fill_nm2 (8, pw) (8, pk)) ?_
      intro z1 o1 l1 s1
      have hb1 : Below (w.heap.size + 1) wr z1 := (Below.refl _ wr).drew.trans (l1.mono HPW.out.big)
      have P1 := Lib.hid ((HPW.out.mono (Below.refl _ wr).drew).mono l1)
      have O1 := Lib.hid o1
      clear o1 l1 s1
      refine ⟨hb1, ?_⟩
      go_simp
      refine hK _ _ ?_
      clear hK K
      have HB1 := Lib.hid hb1
      clear hb1
      refine walk_done rfl rfl (fun K hK => ?_)
      refine done_grow elemNm _ _ rfl (w.heap.size + 1) z1.heap.size _ L [(8, pw), (8, pk)] _ 2 2 rfl rfl rfl P1.out.own (OwnL.rows2 elemNm.len O1.out) (by have := HLE.out; simp; omega) (by decide) P1.out.big ?_
      intro v2 z2 o2 l2
      have hb2 : Below (w.heap.size + 1) wr z2 := HB1.out.trans l2
      have P2 := Lib.hid (P1.out.push (by decide) o2 l2)
      clear o2 l2 P1 O1
      refine ⟨hb2, ?_⟩
      go_simp
      refine hK _ _ ?_
      clear hK K
      refine walk_float rfl rfl (fun K hK => ?_)
      refine gives_assign _ rfl ?_
      go_simp
      refine hK _ ?_
      clear hK K
      refine walk_nil ?_
      go_wp2
      go_roundw
      case rel => exact ⟨k + 1, HLT.out, by go_num, by rw [HL2.out]; exact P2.out⟩
      case measure => have := HLT.out; simp [intOf]; omega
    · have f3 : ¬ (k : Int) < (n : Int) := by omega
      obtain rfl : k = n := by omega
      rw [HA.out, ← HNU.out] at HPW
      obtain ⟨q2, cc, hv, -⟩ := HPW.out.own.rows elemNm.len
      clear hlt hk HR HN
      subst hv
      go_wp2
      go_ret
      exact ⟨_, _, _, rfl, HPW.out.own.lower (by omega), HPW.out.low⟩
set_option maxRecDepth 100000 in
set_option maxHeartbeats 8000000 in
theorem numbers_no {w : World} {q : Option Addr} {n c : Nat} {r : ResvOf} (hq : RegsAt w q r.regs) (hn : r.regs.length = n) (hl : n ≤ 1000) (hs : r.s = false) :
    Calls Try.prog 42 #[.agg (resvA q n c r)] w fun e w' => ∃ q' m c', e = .returned (.slice q' m c') ∧ OwnL nmT 2 regC w' w.heap.size w'.heap.size (.slice q' m c') (numsR r) ∧ Below w.heap.size w w' := by
  have HR := Lib.hid (fun i (hi : i < r.regs.length) => regs_at hq (k := i) hi)
  have HN := Lib.hid (fun i (hi : i < r.regs.length) => pairs_next (ks := r.regs) hi)
  have HLN := Lib.hid (fun i => pairs_len (r.regs.take i))
  have HA := Lib.hid (show pairsR (r.regs.take n) = pairsR r.regs by rw [List.take_of_length_le (by omega)])
  have HNU := Lib.hid (show numsR r = [(8, r.g), (1, 0), (1, r.t), (1, (n : Int)), (8, IntKind.i64.wrap (r.h + 1))] ++ pairsR r.regs by rw [← hn]; unfold numsR pairsR; rw [hs]; rfl)
  have HL := Lib.hid hl
  have HS := Lib.hid hs
  rw [hn] at HR HN
  clear hq hl hn hs
  obtain ⟨hz, hhz⟩ : ∃ hz, hz = IntKind.i64.wrap (r.h + 1) := ⟨_, rfl⟩
  rw [← hhz] at HNU
  have HHZ := Lib.hid hhz.symm
  clear hhz
  go_enter Try.func42, Try.ntmps42
  go_wp2_with (first
  | (with_reducible show wpList _ _ _ (⟨_, Op.box rvT _, _, _, _, none⟩ :: _) _ _
     refine wpList_boxA_of rfl _ rfl (resvA q n c r) rfl ?_
     intro w1 x1 l1 s1
     have X1 := Lib.hid x1
     have L1 := Lib.hid l1
     have S1 := Lib.hid s1
     obtain ⟨c0, c1, c2, c3, c4⟩ := boxRv x1
     rw [HS.out] at c3
     have hhz := HHZ.out
     clear x1 l1 s1)
  | (with_reducible show wpList _ _ _ (⟨some 10, Op.build nmT _, _, _, _, _⟩ :: _) _ _
     refine wpList_build_any rfl nmT _ #[(0, .int .i64 8), (1, .int .i64 r.g)] _ rfl rfl (fun w => run_build w nmT #[(0, .int .i64 8), (1, .int .i64 r.g)] _ (nm_built 8 r.g)) ?_)
  | (with_reducible show wpList _ _ _ (⟨some 12, Op.build nmT _, _, _, _, _⟩ :: _) _ _
     refine wpList_build_any rfl nmT _ #[(0, .int .i64 1), (1, .int .i64 0)] _ rfl rfl (fun w => run_build w nmT #[(0, .int .i64 1), (1, .int .i64 0)] _ (nm_built 1 0)) ?_)
  | (with_reducible show wpList _ _ _ (⟨some 15, Op.build nmT _, _, _, _, _⟩ :: _) _ _
     refine wpList_build_any rfl nmT _ #[(0, .int .i64 1), (1, .int .i64 r.t)] _ rfl rfl (fun w => run_build w nmT #[(0, .int .i64 1), (1, .int .i64 r.t)] _ (nm_built 1 r.t)) ?_)
  | (with_reducible show wpList _ _ _ (⟨some 19, Op.build nmT _, _, _, _, _⟩ :: _) _ _
     refine wpList_build_any rfl nmT _ #[(0, .int .i64 1), (1, .int .i64 (n : Int))] _ rfl rfl (fun w => run_build w nmT #[(0, .int .i64 1), (1, .int .i64 (n : Int))] _ (nm_built 1 (n : Int))) ?_)
  | (with_reducible show wpList _ _ _ (⟨some 23, Op.build nmT _, _, _, _, _⟩ :: _) _ _
     refine wpList_build_any rfl nmT _ #[(0, .int .i64 8), (1, .int .i64 hz)] _ rfl rfl (fun w => run_build w nmT #[(0, .int .i64 8), (1, .int .i64 hz)] _ (nm_built 8 hz)) ?_)
  | (with_reducible show wpList _ _ _ (⟨_, Op.buildSlice nmS _ _, _, _, _, none⟩ :: _) _ _
     refine wpList_nmsL rfl 5 _ rfl [(0, .agg (regA (8, r.g))), (1, .agg (regA (1, 0))), (2, .agg (regA (1, r.t))), (3, .agg (regA (1, (n : Int)))), (4, .agg (regA (8, hz)))] rfl [(8, r.g), (1, 0), (1, r.t), (1, (n : Int)), (8, hz)] rfl (by decide) (by decide) (fill_nm5 (8, r.g) (1, 0) (1, r.t) (1, (n : Int)) (8, hz)) ?_
     intro w2 o2 l2 s2
     have PB0 := Lib.hid (show NmP nmT 2 regC w 1 (resvA q n c r) [(8, r.g), (1, 0), (1, r.t), (1, (n : Int)), (8, hz)] (.slice (some ⟨w1.heap.size, 0, none⟩) 5 5) w2 from ⟨by have h := S1.out; rw [← h]; exact o2, X1.out.keep (l2.block _ X1.out.lt), L1.out.trans (l2.mono L1.out.size), by have h := S1.out; have h2 := l2.size; omega⟩)
     obtain ⟨c0, c1, c2, c3, c4⟩ := boxRv PB0.out.box
     clear o2 l2 s2 X1 L1 S1 hhz))
  go_loopw [28, 4] (fun v28 v4 wr => ∃ k : Nat, k ≤ n ∧ v28 = .int .i64 k ∧ NmP nmT 2 regC w 1 (resvA q n c r) ([(8, r.g), (1, 0), (1, r.t), (1, (n : Int)), (8, hz)] ++ pairsR (r.regs.take k)) v4 wr) (fun v28 _ _ => n - (intOf v28).toNat)
  case atStart => exact ⟨0, Nat.zero_le _, rfl, by rw [pairs_zero, List.append_nil]; exact PB0.out⟩
  case round =>
    obtain ⟨k, hk, rfl, hp⟩ := hrel
    have HPW := Lib.hid hp
    obtain ⟨c0, c1, c2, c3, c4⟩ := boxRv hp.box
    have HLK := Lib.hid (HLN.out k)
    have HLE := Lib.hid (show ([(8, r.g), (1, 0), (1, r.t), (1, (n : Int)), (8, hz)] ++ pairsR (r.regs.take k)).length ≤ 3000 by have h := HLN.out k; have h2 := HL.out; rw [List.length_append, h, List.length_take]; simp; omega)
    clear hp PB0 HLN
    by_cases hlt : k < n
    · have f1 : (k : Int) < (n : Int) := by omega
      have HLT := Lib.hid hlt
      have f3 : IntKind.i64.wrap ((k : Int) + 1) = ((k + 1 : Nat) : Int) := by have := HL.out; rw [IntWalk.i64_in _ (by omega)]; omega
      obtain ⟨QB, qo, rfl, hQB, hrg⟩ := HR.out k hlt
      have HN1 := Lib.hid (HN.out k hlt)
      have HRG := Lib.hid (fun (W : World) (hb : Below w.heap.size w W) => rangeAt_below hrg hb hQB)
      clear hlt hk HR HN hrg hQB
      generalize atR r.regs k = p at *
      obtain ⟨pw, pk⟩ := p
      have HL2 := Lib.hid (show [(8, r.g), (1, 0), (1, r.t), (1, (n : Int)), (8, hz)] ++ pairsR (r.regs.take (k + 1)) = ([(8, r.g), (1, 0), (1, r.t), (1, (n : Int)), (8, hz)] ++ pairsR (r.regs.take k)) ++ [(8, pw), (8, pk)] by rw [HN1.out, List.append_assoc])
      generalize [(8, r.g), (1, 0), (1, r.t), (1, (n : Int)), (8, hz)] ++ pairsR (r.regs.take k) = L at *
      clear HN1 HLK
      go_wp2
      refine wp_region_sched [(0, true), (1, true), (2, true), (3, true), (4, true), (5, true), (6, true), (7, true), (8, true), (9, true), (10, true), (11, true), (12, true), (13, true), (14, true), (15, false), (16, false), (17, true)] (fun V => Below (w.heap.size + 1) wr V) (by kernel_rfl) (by kernel_rfl) (Below.refl _ wr).drew ?_
      refine walk_float rfl rfl (fun K hK => ?_)
      refine gives_move _ rfl ?_
      go_simp
      refine hK _ ?_
      clear hK K
      refine walk_float rfl rfl (fun K hK => ?_)
      refine gives_rvfield _ 0 rfl (by decide) w.heap.size rfl ?_
      go_simp
      refine hK _ ?_
      clear hK K
      refine walk_float rfl rfl (fun K hK => ?_)
      refine gives_cell rgS _ rfl ⟨w.heap.size, 0, none⟩ (.slice (some ⟨QB, qo, none⟩) n c) rfl box_regs (fun V hV => (HPW.out.box.keep (hV.block _ (Nat.lt_succ_self _))).cell 0) ?_
      go_simp
      refine hK _ ?_
      clear hK K
      refine walk_float rfl rfl (fun K hK => ?_)
      refine gives_move _ rfl ?_
      go_simp
      refine hK _ ?_
      clear hK K
      refine walk_float rfl rfl (fun K hK => ?_)
      refine gives_reg_elem _ _ rfl QB qo n c k rfl rfl HLT.out ?_
      go_simp
      refine hK _ ?_
      clear hK K
      refine walk_float rfl rfl (fun K hK => ?_)
      refine gives_rg_who _ rfl QB (qo + 2 * k) rfl ?_
      go_simp
      refine hK _ ?_
      clear hK K
      refine walk_float rfl rfl (fun K hK => ?_)
      refine gives_cell 3 _ rfl ⟨QB, (qo + 2 * k), none⟩ (.int .i64 pw) rfl box_int (fun V hV => reg_c0 (HRG.out V (HPW.out.low.trans (hV.mono (Nat.le_succ _))))) ?_
      go_simp
      refine hK _ ?_
      clear hK K
      refine walk_float rfl rfl (fun K hK => ?_)
      refine gives_nm _ _ rfl 8 pw rfl rfl ?_
      go_simp
      refine hK _ ?_
      clear hK K
      refine walk_float rfl rfl (fun K hK => ?_)
      refine gives_rvfield _ 0 rfl (by decide) w.heap.size rfl ?_
      go_simp
      refine hK _ ?_
      clear hK K
      refine walk_float rfl rfl (fun K hK => ?_)
      refine gives_cell rgS _ rfl ⟨w.heap.size, 0, none⟩ (.slice (some ⟨QB, qo, none⟩) n c) rfl box_regs (fun V hV => (HPW.out.box.keep (hV.block _ (Nat.lt_succ_self _))).cell 0) ?_
      go_simp
      refine hK _ ?_
      clear hK K
      refine walk_float rfl rfl (fun K hK => ?_)
      refine gives_move _ rfl ?_
      go_simp
      refine hK _ ?_
      clear hK K
      refine walk_float rfl rfl (fun K hK => ?_)
      refine gives_reg_elem _ _ rfl QB qo n c k rfl rfl HLT.out ?_
      go_simp
      refine hK _ ?_
      clear hK K
      refine walk_float rfl rfl (fun K hK => ?_)
      refine gives_rg_key _ rfl QB (qo + 2 * k) rfl ?_
      go_simp
      refine hK _ ?_
      clear hK K
      refine walk_float rfl rfl (fun K hK => ?_)
      refine gives_cell 3 _ rfl ⟨QB, ((qo + 2 * k) + 1), none⟩ (.int .i64 pk) rfl box_int (fun V hV => reg_c1 (HRG.out V (HPW.out.low.trans (hV.mono (Nat.le_succ _))))) ?_
      go_simp
      refine hK _ ?_
      clear hK K
      refine walk_float rfl rfl (fun K hK => ?_)
      refine gives_nm _ _ rfl 8 pk rfl rfl ?_
      go_simp
      refine hK _ ?_
      clear hK K
      refine walk_done rfl rfl (fun K hK => ?_)
      refine done_nmsL 2 _ rfl [(0, .agg (regA (8, pw))), (1, .agg (regA (8, pk)))] rfl [(8, pw), (8, pk)] rfl (by decide) (by decide) (fill_nm2 (8, pw) (8, pk)) ?_
      intro z1 o1 l1 s1
      have hb1 : Below (w.heap.size + 1) wr z1 := (Below.refl _ wr).drew.trans (l1.mono HPW.out.big)
      have P1 := Lib.hid ((HPW.out.mono (Below.refl _ wr).drew).mono l1)
      have O1 := Lib.hid o1
      clear o1 l1 s1
      refine ⟨hb1, ?_⟩
      go_simp
      refine hK _ _ ?_
      clear hK K
      have HB1 := Lib.hid hb1
      clear hb1
      refine walk_done rfl rfl (fun K hK => ?_)
      refine done_grow elemNm _ _ rfl (w.heap.size + 1) z1.heap.size _ L [(8, pw), (8, pk)] _ 2 2 rfl rfl rfl P1.out.own (OwnL.rows2 elemNm.len O1.out) (by have := HLE.out; simp; omega) (by decide) P1.out.big ?_
      intro v2 z2 o2 l2
      have hb2 : Below (w.heap.size + 1) wr z2 := HB1.out.trans l2
      have P2 := Lib.hid (P1.out.push (by decide) o2 l2)
      clear o2 l2 P1 O1
      refine ⟨hb2, ?_⟩
      go_simp
      refine hK _ _ ?_
      clear hK K
      refine walk_float rfl rfl (fun K hK => ?_)
      refine gives_assign _ rfl ?_
      go_simp
      refine hK _ ?_
      clear hK K
      refine walk_nil ?_
      go_wp2
      go_roundw
      case rel => exact ⟨k + 1, HLT.out, by go_num, by rw [HL2.out]; exact P2.out⟩
      case measure => have := HLT.out; simp [intOf]; omega
    · have f3 : ¬ (k : Int) < (n : Int) := by omega
      obtain rfl : k = n := by omega
      rw [HA.out, ← HNU.out] at HPW
      obtain ⟨q2, cc, hv, -⟩ := HPW.out.own.rows elemNm.len
      clear hlt hk HR HN
      subst hv
      go_wp2
      go_ret
      exact ⟨_, _, _, rfl, HPW.out.own.lower (by omega), HPW.out.low⟩
theorem numbers_any {w : World} {q : Option Addr} {n c : Nat} {r : ResvOf} (hq : RegsAt w q r.regs) (hn : r.regs.length = n) (hl : n ≤ 1000) :
    Calls Try.prog 42 #[.agg (resvA q n c r)] w fun e w' => ∃ q' m c', e = .returned (.slice q' m c') ∧ OwnL nmT 2 regC w' w.heap.size w'.heap.size (.slice q' m c') (numsR r) ∧ Below w.heap.size w w' := by
  cases hs : r.s with
  | true => exact numbers_yes hq hn hl hs
  | false => exact numbers_no hq hn hl hs
end Go.Proofs.Ytfnkdmdcjliebaa

/- The contracts of the program's Note: the sector that says reservations. Conditions: the registrations lie in memory. -/
namespace Go.Proofs.Ytfnkdmdcjliebaa
open Go.ChangeShapes Go.WideShapes Go.ChangeAt Go.RowKit
set_option linter.unusedVariables false
set_option linter.unusedSimpArgs false
abbrev ceT : TypeId := 55
theorem rowCe : IsRow ceT 128 (cellsOf .u8 (mk 128 zeroK)) := ⟨⟨_, secUnder, rfl⟩, (secSize zeroK).trans (by rw [cellsOf_size, mk_len]), by kernel_rfl, by rw [cellsOf_size, mk_len]⟩
theorem rowNm : IsRow nmT 2 (regA (0, 0)) := ⟨⟨_, Try.underlying79, rfl⟩, by kernel_rfl, by kernel_rfl, rfl⟩
theorem ce_size (f : Nat → Nat) : (cellsOf .u8 (mk 128 f)).size = 128 := by rw [cellsOf_size, mk_len]
theorem ce_one (f : Nat → Nat) : (cellsOf .u8 (mk 128 f)).all (·.oneCell') = true := by
  rw [Array.all_eq_true]
  intro i hi
  have h := cellsOf_get .u8 (mk 128 f) hi
  rw [Array.getElem?_eq_getElem hi] at h
  rw [Option.some.inj h]; rfl
section
variable {ops : Array Oper} {rest : List Oper} {o : Oper} {a : Act} {w : World} {Q : Exit → Act → World → Prop}
theorem wpList_nm_elem (hgd : o.guard = none) (x y : Operand) (ho : o.op = .indexAddr nmS x y) (B off n cap k : Nat) (hx : a.eval x = .slice (some ⟨B, off, none⟩) n cap) (hy : a.eval y = .int .i64 k) (hk : k < n) (h : wpList Try.prog ops Q rest (a.put o.dst (.pointer (some ⟨B, off + 2 * k, none⟩))) w) : wpList Try.prog ops Q (o :: rest) a w :=
  wpList_plain hgd fun K hK => by
    have h0 : (k : Int) < n := by omega
    have hs : (sizeOf nmT).run Try.prog w = .ok 2 w := by
      have hi := nmSize
      cases hq : Try.prog.info? nmT with
      | none => simp [hq] at hi
      | some i =>
        have hs : i.size = 2 := by simpa [hq] using hi
        simp [sizeOf, typeInfo, hq, hs]
    unfold Oper.wp execOp
    simp only [ho, hx, hy]
    simp [go_sem, Try.underlying76, h0, hs, addr_add]
    rw [Nat.mul_comm]
    exact hK _ _ h
theorem wpList_nm_load (hgd : o.guard = none) (x : Operand) (ho : o.op = .load nmT x) (B off : Nat) (hx : a.eval x = .pointer (some ⟨B, off, none⟩)) (u c : Int) (hc : w.rangeAt B off (regC (u, c))) (h : wpList Try.prog ops Q rest (a.put o.dst (.agg (regA (u, c)))) w) : wpList Try.prog ops Q (o :: rest) a w :=
  wpList_load_mid hgd _ x ho B off hx (regC (u, c)) _ hc Try.underlying79 rfl nmSize h
end
/-- Between two rounds: the bytes laid so far, the numbers' row, the result's box. -/
structure NtP (w : World) (qn : Option Addr) (l : List (Int × Int)) (m : Nat) (F : Nat → Nat) (p : Option Addr) (V : World) : Prop where
  bytes : BytesAt V p m F
  rows : RowsAt 2 regC V qn l
  res : BoxA V (w.heap.size + 1) ceT (cellsOf .u8 (mk 128 zeroK))
  low : Below w.heap.size w V
theorem NtP.mono {w V V' : World} {qn : Option Addr} {l : List (Int × Int)} {m : Nat} {F : Nat → Nat} {p : Option Addr} (h : NtP w qn l m F p V) (hb : Below V.heap.size V V') : NtP w qn l m F p V' :=
  ⟨h.bytes.below hb, RowsAt.below h.rows hb, h.res.keep (hb.block _ h.res.lt), h.low.trans (hb.mono h.low.size)⟩
theorem NtP.byt {w V : World} {qn : Option Addr} {l : List (Int × Int)} {m m' : Nat} {F F' : Nat → Nat} {p p' : Option Addr} (h : NtP w qn l m F p V) (hb : BytesAt V p' m' F') : NtP w qn l m' F' p' V := ⟨hb, h.rows, h.res, h.low⟩
theorem rows_get {W : World} {q : Option Addr} {l : List (Int × Int)} (h : RowsAt 2 regC W q l) {k : Nat} (hk : k < l.length) : ∃ B o, q = some ⟨B, o, none⟩ ∧ W.rangeAt B (o + 2 * k) (regC (atR l k)) := by
  obtain ⟨B, o, h1, -, h3⟩ := regs_at h hk
  exact ⟨B, o, h1, h3⟩
theorem regA_size (p : Int × Int) : (regA p).size = 2 := rfl
theorem regA_one (p : Int × Int) : (regA p).all (·.oneCell') = true := by simp [regA, Value.oneCell']
theorem boxNm {W : World} {O : Nat} {u c : Int} (h : BoxA W O nmT (regA (u, c))) : W.cell? ⟨O, 0, none⟩ = some (.int .i64 u) ∧ W.cell? ⟨O, 1, none⟩ = some (.int .i64 c) := ⟨h.cell 0, h.cell 1⟩
theorem nat_of {p : Int × Int} (h : NumOk p) : ∃ (s : Nat) (z : Int), p = ((s : Int), z) ∧ IsSize (s : Int) ∧ fitsN s z := by
  obtain ⟨a, z⟩ := p
  have h1 := h.size; have h2 := h.nat; have h3 := h.fits
  exact ⟨a.toNat, z, by rw [Prod.mk.injEq]; exact ⟨h2.symm, rfl⟩, h1, h3⟩
theorem step_is (a : Nat × (Nat → Nat)) (s : Nat) (z : Int) : stepN a ((s : Int), z) = (a.1 + s, cat a.1 a.2 (numF s z)) := by unfold stepN; rw [Int.toNat_natCast]
theorem size_le {s : Nat} (h : IsSize (s : Int)) : s ≤ 8 := by unfold IsSize at h; omega
attribute [local irreducible] regC atR pairsR numsR bytesN stepN cat numF mk extF zeroK regA
attribute [local go_sem] Oper.semAt_some
set_option maxRecDepth 100000 in
set_option maxHeartbeats 8000000 in
theorem Note_ok {w : World} {q : Option Addr} {n c : Nat} {r : ResvOf} (hq : RvAt w q n c r) (hg : goodR r = true) :
    Calls Try.prog 23 #[.agg (resvA q n c r)] w fun e w' => e = .returned (.tuple #[.agg (cellsOf .u8 (mk 128 (noteF r))), .nilIface]) ∧ Below w.heap.size w w' := by
  have HCK := Lib.hid (fun (W : World) (hb : Below w.heap.size w W) => (by have h := Check_any (RvAt.below hq hb); rw [hg, if_pos rfl, errN_zero] at h; exact h : Calls Try.prog 14 #[.agg (resvA q n c r)] W fun e w' => e = .returned .nilIface ∧ Below W.heap.size W w'))
  have HNM := Lib.hid (fun (W : World) (hb : Below w.heap.size w W) => numbers_any (c := c) (RowsAt.below hq.at_ hb) hq.len hq.few)
  have G := good_iff.1 hg
  have HOK := Lib.hid (fun k (hk : k < (numsR r).length) => nat_of (nums_ok G (atR (numsR r) k) (List.mem_of_getElem? (atR_get hk))))
  have HNX := Lib.hid (fun k (hk : k < (numsR r).length) => bytes_next (l := numsR r) hk)
  have HFW := Lib.hid (fun k => take_few G k)
  have HB0 := Lib.hid (show bytesN ((numsR r).take 0) = (0, zeroK) by unfold bytesN; rfl)
  have HBN := Lib.hid (show extF (bytesN ((numsR r).take (numsR r).length)).1 (bytesN ((numsR r).take (numsR r).length)).2 = noteF r by rw [List.take_of_length_le (Nat.le_refl _)]; rfl)
  have HLN := Lib.hid (show (numsR r).length ≤ 13 by have h := nums_len r; have h2 := G.few; omega)
  clear hq hg G
  obtain ⟨N, hN⟩ : ∃ N, (numsR r).length = N := ⟨_, rfl⟩
  have HN := Lib.hid hN
  rw [hN] at HOK HNX HBN HLN
  clear hN
  go_enter Try.func23, Try.ntmps23
  go_wp2_with (first
  | (with_reducible show wpList _ _ _ (⟨_, Op.box rvT _, _, _, _, none⟩ :: _) _ _
     refine wpList_boxA_of rfl _ rfl (resvA q n c r) rfl ?_
     intro w1 x1 l1 s1
     have X1 := Lib.hid x1
     have L1 := Lib.hid l1
     have S1 := Lib.hid s1
     clear x1 l1 s1)
  | (with_reducible show wpList _ _ _ (⟨some 2, Op.alloc ceT, _, _, _, _⟩ :: _) _ _
     refine wpList_boxA_new rowCe rfl rfl (w.heap.size + 1) S1.out ?_
     intro w2 x2 l2 s2
     have R2 := Lib.hid x2
     have X2 := Lib.hid (X1.out.keep (l2.block _ X1.out.lt))
     have L2 := Lib.hid (L1.out.trans (l2.mono L1.out.size))
     clear x2 l2 s2 X1 L1 S1)
  | (with_reducible show wpList _ _ _ (⟨some 9, Op.load rvT _, _, _, _, none⟩ :: _) _ _
     refine wpList_boxA_load rowRv rfl _ rfl w.heap.size (resvA q n c r) rfl rfl X2.out ?_)
  | (go_at_call 14
     refine (HCK.out _ L2.out).mono ?_; rintro e w3 ⟨rfl, hb3⟩
     have R3 := Lib.hid (R2.out.keep (hb3.block _ R2.out.lt))
     have X3 := Lib.hid (X2.out.keep (hb3.block _ X2.out.lt))
     have L3 := Lib.hid (L2.out.trans (hb3.mono L2.out.size))
     clear hb3 R2 X2 L2 HCK)
  | (with_reducible show wpList _ _ _ (⟨some 15, Op.load rvT _, _, _, _, none⟩ :: _) _ _
     refine wpList_boxA_load rowRv rfl _ rfl w.heap.size (resvA q n c r) rfl rfl X3.out ?_)
  | (go_at_call 42
     refine (HNM.out _ L3.out).mono ?_; rintro e w4 ⟨qn, nn, cn, rfl, on, hb4⟩
     obtain ⟨qq, cc, hv, -, -, hrw, -⟩ := on.rows elemNm.len
     rw [HN.out] at hv
     cases hv
     have P4 := Lib.hid (show NtP w qn (numsR r) 0 zeroK none w4 from ⟨.inl rfl, hrw, R3.out.keep (hb4.block _ R3.out.lt), L3.out.trans (hb4.mono L3.out.size)⟩)
     clear on hb4 R3 X3 L3 HNM hrw))
  go_loopw [18, 5] (fun v18 v5 wr => ∃ k : Nat, k ≤ N ∧ v18 = .int .i64 k ∧ ∃ p cc, v5 = .slice p (bytesN ((numsR r).take k)).1 cc ∧ NtP w qn (numsR r) (bytesN ((numsR r).take k)).1 (bytesN ((numsR r).take k)).2 p wr) (fun v18 _ _ => N - (intOf v18).toNat)
  case atStart => exact ⟨0, Nat.zero_le _, rfl, none, 0, by rw [HB0.out], by rw [HB0.out]; exact P4.out⟩
  case round =>
    obtain ⟨k, hk, rfl, p, cp, rfl, hp⟩ := hrel
    have HP := Lib.hid hp
    have HF := Lib.hid (HFW.out k)
    clear hp P4 HFW HB0
    by_cases hlt : k < N
    · have f1 : (k : Int) < (N : Int) := by omega
      have HLT := Lib.hid hlt
      have f3 : IntKind.i64.wrap ((k : Int) + 1) = ((k + 1 : Nat) : Int) := by have := HLN.out; rw [IntWalk.i64_in _ (by omega)]; omega
      obtain ⟨s, z, hsz, hs, hz⟩ := HOK.out k hlt
      have HNX1 := Lib.hid (HNX.out k hlt)
      have HS := Lib.hid hs
      have HZ := Lib.hid hz
      have HAT := Lib.hid hsz
      obtain ⟨QB, qo, rfl, hrg⟩ := rows_get HP.out.rows (k := k) (by rw [HN.out]; exact hlt)
      rw [hsz] at hrg
      have HRG := Lib.hid hrg
      rw [HAT.out, step_is] at HNX1
      clear hlt hk HOK HNX hsz hs hz hrg HBN HAT
      generalize hbk : bytesN ((numsR r).take k) = bk at *
      obtain ⟨m, F⟩ := bk
      simp only at HNX1 HP HF
      clear hbk
      go_wp2_with (first
      | (with_reducible show wpList _ _ _ (⟨_, Op.indexAddr nmS _ _, _, _, _, none⟩ :: _) _ _
         refine wpList_nm_elem rfl _ _ rfl QB qo N cn k rfl rfl HLT.out ?_)
      | (with_reducible show wpList _ _ _ (⟨_, Op.load nmT _, _, _, _, none⟩ :: _) _ _
         refine wpList_nm_load rfl _ rfl QB (qo + 2 * k) rfl s z HRG.out ?_)
      | (with_reducible show wpList _ _ _ (⟨some 7, Op.alloc nmT, _, _, _, _⟩ :: _) _ _
         refine wpList_boxA_new rowNm rfl rfl wr.heap.size rfl ?_
         intro w5 x5 l5 s5
         have J5 := Lib.hid x5
         have P5 := Lib.hid (HP.out.mono l5)
         have HJ := Lib.hid (show w.heap.size + 1 < wr.heap.size from HP.out.res.lt)
         have L5 := Lib.hid l5
         clear x5 l5 s5)
      | (with_reducible show wpList _ _ _ (⟨_, Op.store nmT _ _, _, _, _, none⟩ :: _) _ _
         refine wpList_boxA_put rowNm rfl _ _ rfl rfl wr.heap.size (regA (s, z)) (regA (0, 0)) (regA_size _) (regA_one _) (regA_size _) rfl rfl J5.out ?_
         intro w6 x6 k6 s6
         have l6 : Below wr.heap.size wr w6 := L5.out.trans (k6.below L5.out.size (fun j hj e => by omega))
         have P6 := Lib.hid (HP.out.mono l6)
         obtain ⟨d0, d1⟩ := boxNm x6
         clear x6 k6 s6 l6 J5 P5 L5 HP)
      | (go_at_call 43
         refine (Put_ok p m cp F s z HS.out HZ.out (by have := HF.out; omega) w6 P6.out.bytes).mono ?_; rintro e w7 ⟨rfl, hb7, hl7⟩
         have P7 := Lib.hid ((P6.out.mono hl7).byt hb7.bytesAt)
         clear hb7 hl7 P6 d0 d1))
      go_roundw
      case rel => exact ⟨k + 1, HLT.out, by go_num, some ⟨w6.heap.size, 0, none⟩, m + s, by rw [HNX1.out], by rw [HNX1.out]; exact P7.out⟩
      case measure => have := HLT.out; simp [intOf]; omega
    · have f3 : ¬ (k : Int) < (N : Int) := by omega
      obtain rfl : k = N := by omega
      clear hlt hk HOK HNX
      generalize hbk : bytesN ((numsR r).take k) = bk at *
      obtain ⟨m, F⟩ := bk
      simp only at HP HF HBN
      clear hbk
      go_wp2_with (first
      | (go_at_call 44
         refine (Fill_ok p m cp F (by have := HF.out; omega) wr HP.out.bytes).mono ?_; rintro e w8 ⟨rfl, hb8⟩
         have P8 := Lib.hid (HP.out.mono hb8)
         clear hb8 HP)
      | (with_reducible show wpList _ _ _ (⟨_, Op.store ceT _ _, _, _, _, none⟩ :: _) _ _
         refine wpList_boxA_put rowCe rfl _ _ rfl rfl (w.heap.size + 1) (cellsOf .u8 (mk 128 (extF m F))) _ (ce_size _) (ce_one _) (ce_size _) rfl rfl P8.out.res ?_
         intro w9 x9 k9 s9
         have R9 := Lib.hid x9
         have L9 := Lib.hid (P8.out.low.trans (k9.below P8.out.low.size (fun j hj e => by omega)))
         clear x9 k9 s9 P8))
      rw [HBN.out] at R9
      exact bodyPost_ret (results_cell_row_tmp rfl _ _ (w.heap.size + 1) ceT (cellsOf .u8 (mk 128 (noteF r))) (0, 0) _ rfl R9.out secUnder rfl (secSize _)) rfl ⟨rfl, L9.out⟩
set_option maxRecDepth 100000 in
set_option maxHeartbeats 8000000 in
theorem Note_no {w : World} {q : Option Addr} {n c : Nat} {r : ResvOf} (hq : RvAt w q n c r) (hg : goodR r = false) :
    Calls Try.prog 23 #[.agg (resvA q n c r)] w fun e w' => e = .returned (.tuple #[.agg (cellsOf .u8 (mk 128 zeroK)), .iface 45 (.int .i64 2)]) ∧ Below w.heap.size w w' := by
  have HCK := Lib.hid (fun (W : World) (hb : Below w.heap.size w W) => (check_good (RvAt.below hq hb) hg : Calls Try.prog 14 #[.agg (resvA q n c r)] W fun e w' => e = .returned (.iface 45 (.int .i64 2)) ∧ Below W.heap.size W w'))
  clear hq hg
  go_enter Try.func23, Try.ntmps23
  go_wp2_with (first
  | (with_reducible show wpList _ _ _ (⟨_, Op.box rvT _, _, _, _, none⟩ :: _) _ _
     refine wpList_boxA_of rfl _ rfl (resvA q n c r) rfl ?_
     intro w1 x1 l1 s1
     have X1 := Lib.hid x1
     have L1 := Lib.hid l1
     have S1 := Lib.hid s1
     clear x1 l1 s1)
  | (with_reducible show wpList _ _ _ (⟨some 2, Op.alloc ceT, _, _, _, _⟩ :: _) _ _
     refine wpList_boxA_new rowCe rfl rfl (w.heap.size + 1) S1.out ?_
     intro w2 x2 l2 s2
     have R2 := Lib.hid x2
     have X2 := Lib.hid (X1.out.keep (l2.block _ X1.out.lt))
     have L2 := Lib.hid (L1.out.trans (l2.mono L1.out.size))
     clear x2 l2 s2 X1 L1 S1)
  | (with_reducible show wpList _ _ _ (⟨some 9, Op.load rvT _, _, _, _, none⟩ :: _) _ _
     refine wpList_boxA_load rowRv rfl _ rfl w.heap.size (resvA q n c r) rfl rfl X2.out ?_)
  | (go_at_call 14
     refine (HCK.out _ L2.out).mono ?_; rintro e w3 ⟨rfl, hb3⟩
     have R3 := Lib.hid (R2.out.keep (hb3.block _ R2.out.lt))
     have L3 := Lib.hid (L2.out.trans (hb3.mono L2.out.size))
     clear hb3 R2 X2 L2 HCK)
  | (with_reducible show wpList _ _ _ (⟨_, Op.build ceT _, _, _, _, none⟩ :: _) _ _
     refine wpList_sec_build0 rfl rfl ?_)
  | (with_reducible show wpList _ _ _ (⟨_, Op.store ceT _ _, _, _, _, none⟩ :: _) _ _
     refine wpList_boxA_put rowCe rfl _ _ rfl rfl (w.heap.size + 1) (cellsOf .u8 (mk 128 zeroK)) _ (ce_size _) (ce_one _) (ce_size _) rfl rfl R3.out ?_
     intro w9 x9 k9 s9
     have R9 := Lib.hid x9
     have L9 := Lib.hid (L3.out.trans (k9.below L3.out.size (fun j hj e => by omega)))
     clear x9 k9 s9 R3 L3))
  exact bodyPost_ret (results_cell_row_tmp rfl _ _ (w.heap.size + 1) ceT (cellsOf .u8 (mk 128 zeroK)) (0, 0) _ rfl R9.out secUnder rfl (secSize _)) rfl ⟨rfl, L9.out⟩
end Go.Proofs.Ytfnkdmdcjliebaa

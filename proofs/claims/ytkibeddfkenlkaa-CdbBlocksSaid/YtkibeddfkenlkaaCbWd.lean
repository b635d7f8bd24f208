/- What commands' texts share: what a world keeps, structs in boxes, rows of ints, numbers' bytes one behind the other. Conditions: as each says. -/
import Derived.Test.YtkibeddfkenlkaaWdAll
import Derived.Laws.StructEq
import Derived.Laws.IdiomCopy
import Derived.Lib.SmallJoins
import Derived.ChangeMaps5
namespace Go.Proofs.Ytkibeddfkenlkaa
open Go.ChangeShapes Go.WideShapes Go.ChangeAt Go.RowKit
set_option linter.unusedVariables false
set_option linter.unusedSimpArgs false
def okI (z : Int) : Prop := -9223372036854775808 ≤ z ∧ z ≤ 9223372036854775807
/-! ### What a world keeps -/
/-- All that was there lies as it lay, but for the blocks in S. -/
structure Keeps (S : Nat → Prop) (w w' : World) : Prop where
  os : w'.os = w.os
  tape : w'.tape = w.tape
  output : w'.output = w.output
  size : w.heap.size ≤ w'.heap.size
  block : ∀ k, k < w.heap.size → ¬ S k → w'.heap[k]? = w.heap[k]?
namespace Keeps
variable {S : Nat → Prop} {w w' w'' : World}
theorem refl (S : Nat → Prop) (w : World) : Keeps S w w := ⟨rfl, rfl, rfl, Nat.le_refl _, fun _ _ _ => rfl⟩
theorem trans (h : Keeps S w w') (k : Keeps S w' w'') : Keeps S w w'' :=
  ⟨k.os.trans h.os, k.tape.trans h.tape, k.output.trans h.output, Nat.le_trans h.size k.size, fun i hi hn => (k.block i (Nat.lt_of_lt_of_le hi h.size) hn).trans (h.block i hi hn)⟩
theorem mono {S' : Nat → Prop} (h : Keeps S w w') (hs : ∀ k, k < w.heap.size → S k → S' k) : Keeps S' w w' := ⟨h.os, h.tape, h.output, h.size, fun i hi hn => h.block i hi (fun e => hn (hs i hi e))⟩
theorem of (h : Below w.heap.size w w') : Keeps S w w' := ⟨h.os, h.tape, h.output, h.size, fun k hk _ => h.block k hk⟩
theorem alloc (h : Keeps S w w') (o : Obj) : Keeps S w (w'.alloc o) := h.trans (.of ((Below.refl _ _).alloc (Nat.le_refl _) _))
theorem drew (h : Keeps S w w') : Keeps S w w'.drew := ⟨h.os, h.tape, h.output, h.size, h.block⟩
theorem setCell (h : Keeps S w w') {B : Nat} (hB : S B) (i : Nat) (v : Value) : Keeps S w (w'.setCell ⟨B, i, none⟩ v) :=
  h.trans ⟨rfl, rfl, rfl, by simp [World.setCell], fun k _ hn => Below.heap_setCell _ _ _ k (fun e => hn (by rw [e]; exact hB))⟩
theorem setRow (h : Keeps S w w') {B : Nat} (hB : S B) (cs : Array Value) : Keeps S w (w'.setRow B cs) :=
  h.trans ⟨rfl, rfl, rfl, by simp, fun k _ hn => setRow_other _ B k cs (fun e => hn (by rw [e]; exact hB))⟩
theorem grown (h : Keeps S w w') {row : Option Nat} (hg : w'.grownBy w'' row) (hr : ∀ k, row = some k → S k) : Keeps S w w'' :=
  h.trans ⟨hg.os, hg.tape, hg.output, hg.size, fun k hk hn => hg.block k hk (fun e => hn (hr k e.symm))⟩
theorem but {B : Nat} (h : Keeps S w w') (hb : But B w' w'') (hB : S B) : Keeps S w w'' :=
  h.trans ⟨hb.low.os, hb.low.tape, hb.low.output, hb.size, fun k hk hn => hb.same k hk (fun e => hn (by rw [e]; exact hB))⟩
theorem below {M : Nat} (h : Keeps S w w') (hM : M ≤ w.heap.size) (hS : ∀ k, k < M → ¬ S k) : Below M w w' := ⟨h.os, h.tape, h.output, h.size, fun k hk => h.block k (by omega) (hS k hk)⟩
theorem blk {C : Nat} {k : IntKind} {t : TypeId} {l : List Int} (h : Keeps S w w') (hC : IntBlk w C k t l) (hn : ¬ S C) : IntBlk w' C k t l := (h.block C hC.lt hn).trans hC
theorem cells {C : Nat} {o : Obj} (h : Keeps S w w') (hC : w.heap[C]? = some o) (hn : ¬ S C) : w'.heap[C]? = some o := (h.block C (Array.getElem?_eq_some_iff.1 hC).1 hn).trans hC
end Keeps


theorem Keeps.trans' {S : Nat → Prop} {w w' w'' : World} (h : Keeps S w w') (k : w''.os = w'.os ∧ w''.tape = w'.tape ∧ w''.output = w'.output ∧ w'.heap.size ≤ w''.heap.size ∧ ∀ k, k < w.heap.size → ¬ S k → w''.heap[k]? = w'.heap[k]?) : Keeps S w w'' :=
  ⟨k.1.trans h.os, k.2.1.trans h.tape, k.2.2.1.trans h.output, Nat.le_trans h.size k.2.2.2.1, fun i hi hn => (k.2.2.2.2 i hi hn).trans (h.block i hi hn)⟩
theorem Keeps.grownL {S : Nat → Prop} {w w' w'' : World} {v : Value} (h : Keeps S w w') (hg : w'.grownBy w'' v.ownBlock) (hr : ∀ k, v.ownBlock = some k → k < w.heap.size → S k) : Keeps S w w'' :=
  h.trans' ⟨hg.os, hg.tape, hg.output, hg.size, fun k hk hn => hg.block k (Nat.lt_of_lt_of_le hk h.size) (fun e => hn (hr k e.symm hk))⟩
def atR (ks : List (Int × Int)) (k : Nat) : Int × Int := ks.getD k (0, 0)
theorem atR_get {ks : List (Int × Int)} {k : Nat} (h : k < ks.length) : ks[k]? = some (atR ks k) := by unfold atR; rw [List.getD_eq_getElem?_getD, List.getElem?_eq_getElem h]; rfl
theorem take_snocR {ks : List (Int × Int)} {j : Nat} (hj : j < ks.length) : ks.take (j + 1) = ks.take j ++ [atR ks j] := by
  have h := atR_get hj
  rw [List.take_add_one, h]; rfl
theorem drop_consR {ks : List (Int × Int)} {j : Nat} (hj : j < ks.length) : ks.drop j = atR ks j :: ks.drop (j + 1) := by
  have h := atR_get hj
  rw [List.getElem?_eq_getElem hj] at h
  rw [List.drop_eq_getElem_cons hj, Option.some.inj h]
/-- A struct of type T in a box. -/
def BoxA (W : World) (O : Nat) (T : TypeId) (A : Array Value) : Prop := W.heap[O]? = some (.cells A T (0, 0))
theorem BoxA.lt {W : World} {O : Nat} {T : TypeId} {A : Array Value} (h : BoxA W O T A) : O < W.heap.size := (Array.getElem?_eq_some_iff.1 h).1
theorem BoxA.keep {W W' : World} {O : Nat} {T : TypeId} {A : Array Value} (h : BoxA W O T A) (hb : W'.heap[O]? = W.heap[O]?) : BoxA W' O T A := hb.trans h
theorem BoxA.cell {W : World} {O : Nat} {T : TypeId} {A : Array Value} (h : BoxA W O T A) (k : Nat) : W.cell? ⟨O, k, none⟩ = A[k]? := cell_of_row _ _ _ _ _ _ h
theorem BoxA.free {W : World} {O : Nat} {T : TypeId} {A : Array Value} (h : BoxA W O T A) (k : Nat) : W.frozen? ⟨O, k, none⟩ = false := frozen_of_row _ _ _ _ _ h
theorem BoxA.alloc (W : World) (T : TypeId) (A : Array Value) : BoxA (W.alloc (.cells A T)) W.heap.size T A := heap_alloc_new W _
theorem BoxA.set {W : World} {O : Nat} {T : TypeId} {A : Array Value} (h : BoxA W O T A) (k : Nat) (v : Value) : BoxA (W.setCell ⟨O, k, none⟩ v) O T (A.setIfInBounds k v) := heap_setCell_same _ _ _ _ _ _ h
/-- What is to be known of a struct's type. -/
structure IsRow (T : TypeId) (sz : Nat) (z : Array Value) : Prop where
  under : ∃ d, Try.prog.underlying T = some d ∧ (match d with | .struct _ | .array _ _ => true | _ => false) = true
  size : (Try.prog.info? T).map (·.size) = some sz
  zero : (Try.prog.info? T).bind (·.zero) = some (.agg z)
  zsize : z.size = sz
theorem IsRow.zero_run {T : TypeId} {sz : Nat} {z : Array Value} (R : IsRow T sz z) (W : World) : (zeroValue T).run Try.prog W = .ok (.agg z) W := by
  have h := R.zero
  cases hq : Try.prog.info? T with
  | none => rw [hq] at h; simp at h
  | some i =>
    rw [hq] at h
    simp only [Option.bind_some] at h
    simp [zeroValue, typeInfo, hq, h]
theorem keeps_row (O : Nat) (cs : Array Value) (w : World) : Keeps (fun k => k = O) w (w.setRow O cs) := (Keeps.refl (fun k => k = O) w).setRow rfl cs
section
variable {ops : Array Oper} {rest : List Oper} {o : Oper} {a : Act} {w : World} {Q : Exit → Act → World → Prop} {T : TypeId} {sz : Nat} {z : Array Value}
theorem wpList_boxA_load (R : IsRow T sz z) (hgd : o.guard = none) (x : Operand) (ho : o.op = .load T x) (O : Nat) (A : Array Value) (hA : A.size = sz) (hx : a.eval x = .pointer (some ⟨O, 0, none⟩)) (hO : BoxA w O T A)
    (h : wpList Try.prog ops Q rest (a.put o.dst (.agg A)) w) : wpList Try.prog ops Q (o :: rest) a w := by
  obtain ⟨d, hu, hd⟩ := R.under
  refine wpList_load_row hgd T x ho O hx T A (0, 0) d hO hu ?_ (by rw [hA]; exact R.size) h
  cases d <;> first | rfl | exact hd
/-- The same, where the load is guarded and wanted. -/
theorem wpList_boxA_loadw (R : IsRow T sz z) (x : Operand) (ho : o.op = .load T x) (hw : Region.wanted o (yielded ops a.tmps) = true) (O : Nat) (A : Array Value) (hA : A.size = sz) (hx : a.eval x = .pointer (some ⟨O, 0, none⟩)) (hO : BoxA w O T A)
    (h : wpList Try.prog ops Q rest (a.put o.dst (.agg A)) w) : wpList Try.prog ops Q (o :: rest) a w := by
  obtain ⟨d, hu, hd⟩ := R.under
  refine wanted_step hw fun K hK => wp_load_row T x ho O hx T A (0, 0) d hO hu ?_ (by rw [hA]; exact R.size) (hK _ _ h)
  cases d <;> first | rfl | exact hd
theorem wpList_boxA_new (R : IsRow T sz z) (ho : o.op = .alloc T) (hw : Region.wanted o (yielded ops a.tmps) = true) (S : Nat) (hS : w.heap.size = S)
    (h : ∀ w', BoxA w' S T z → Below w.heap.size w w' → w'.heap.size = w.heap.size + 1 → wpList Try.prog ops Q rest (a.put o.dst (.pointer (some ⟨S, 0, none⟩))) w') : wpList Try.prog ops Q (o :: rest) a w :=
  wanted_step hw fun K hK => by
    subst hS
    have e := R.zero_run w
    unfold Oper.wp execOp
    simp only [ho]
    simp [go_sem, e]
    exact hK _ _ (h _ (BoxA.alloc w T z) ((Below.refl _ w).alloc (Nat.le_refl _) _) (World.size_alloc _ _))
theorem wpList_boxA_put (R : IsRow T sz z) (hgd : o.guard = none) (x y : Operand) (ho : o.op = .store T x y) (hd : o.dst = none) (O : Nat) (A old : Array Value) (hA : A.size = sz) (h1 : A.all (·.oneCell') = true) (hold : old.size = sz) (hx : a.eval x = .pointer (some ⟨O, 0, none⟩)) (hy : a.eval y = .agg A) (hO : BoxA w O T old)
    (h : ∀ w', BoxA w' O T A → Keeps (fun k => k = O) w w' → w'.heap.size = w.heap.size → wpList Try.prog ops Q rest a w') : wpList Try.prog ops Q (o :: rest) a w :=
  store_row_on hgd T x y ho hd O A hx hy T old hO (by rw [hA]; exact R.size) (hold.trans hA.symm) h1 (h _ (setRow_heap _ _ _ _ _ (0, 0) hO) (keeps_row O _ w) (by simp))
theorem wpList_boxA_of (hgd : o.guard = none) (x : Operand) (ho : o.op = .box T x) (A : Array Value) (hx : a.eval x = .agg A)
    (h : ∀ w', BoxA w' w.heap.size T A → Below w.heap.size w w' → w'.heap.size = w.heap.size + 1 → wpList Try.prog ops Q rest (a.put o.dst (.pointer (some ⟨w.heap.size, 0, none⟩))) w') : wpList Try.prog ops Q (o :: rest) a w :=
  wpList_plain hgd fun K hK => by
    unfold Oper.wp execOp
    simp only [ho, hx]
    simp [go_sem]
    exact hK _ _ (h _ (BoxA.alloc w T A) ((Below.refl _ w).alloc (Nat.le_refl _) _) (World.size_alloc _ _))
end
theorem intElem1 : IntElem Try.prog 3 .i64 := ⟨Try.underlying3, by kernel_rfl⟩
def intC (z : Int) : List Value := [.int .i64 z]
theorem elemInt : ElemOf Try.prog 63 3 1 8 intC where
  under := Try.underlying63
  size := by kernel_rfl
  bytes := by kernel_rfl
  zero := ⟨.int .i64 0, by kernel_rfl, rfl⟩
  len := fun _ => rfl
  one := fun c u hu => by
    obtain rfl : u = .int .i64 c := by simpa [intC] using hu
    rfl
  pos := by decide
theorem int_row {w : World} {q : Option Addr} {l : List Int} (h : RowsAt 1 intC w q l) {k : Nat} (hk : k < l.length) : ∃ B o, q = some ⟨B, o, none⟩ ∧ B < w.heap.size ∧ w.cell? ⟨B, o + k, none⟩ = some (.int .i64 (l.getD k 0)) := by
  rcases h with rfl | ⟨B, o, h1, h2, h3⟩
  · simp at hk
  · have := h3 k _ (List.getElem?_eq_getElem hk) 0 _ rfl
    rw [Nat.one_mul, Nat.add_zero] at this
    exact ⟨B, o, h1, h2, by rw [this, List.getD_eq_getElem?_getD, List.getElem?_eq_getElem hk]; rfl⟩
theorem int_addr {o : Oper} {a : Act} (x y : Operand) (ho : o.op = .indexAddr 63 x y) (B off n cap k : Nat) (hx : a.eval x = .slice (some ⟨B, off, none⟩) n cap) (hy : a.eval y = .int .i64 k) (hk : k < n) (w : World) : (execOp a.eval o).run Try.prog w = .ok (.value (.pointer (some ⟨B, off + k, none⟩))) w := by
  have h0 : (k : Int) < n := by omega
  have hs := intElem1.run_size (P := Try.prog) w
  unfold execOp
  simp only [ho, hx, hy]
  simp [go_sem, Try.underlying63, h0, hs, addr_add]
theorem gives_int_elem {o : Oper} {a : Act} {C : World → Prop} {K : Act → Prop} (x y : Operand) (ho : o.op = .indexAddr 63 x y) (B off n cap k : Nat) (hx : a.eval x = .slice (some ⟨B, off, none⟩) n cap) (hy : a.eval y = .int .i64 k) (hk' : k < n) (hk : K (a.put o.dst (.pointer (some ⟨B, off + k, none⟩)))) : ∃ v, Gives Try.prog C o a v ∧ K (a.put o.dst v) :=
  ⟨_, fun w _ => int_addr x y ho B off n cap k hx hy hk' w, hk⟩
/-- A row of ints in a block of its own. -/
abbrev RowI (W : World) (B : Nat) (l : List Int) : Prop := BoxA W B 3 (cellsOf .i64 l)
theorem cells_flat : ∀ l : List Int, (cellsOf .i64 l).toList = l.flatMap intC
  | [] => rfl
  | z :: l => by
    have := cells_flat l
    unfold cellsOf at *
    simp only [List.map_cons, List.flatMap_cons] at *
    rw [← this]; rfl
/-- Bytes and one number more. -/
def stepN (a : Nat × (Nat → Nat)) (p : Int × Int) : Nat × (Nat → Nat) := (a.1 + p.1.toNat, cat a.1 a.2 (numF p.1.toNat p.2))
def bytesN (l : List (Int × Int)) : Nat × (Nat → Nat) := l.foldl stepN (0, zeroK)
theorem bytes_next {l : List (Int × Int)} {k : Nat} (hk : k < l.length) : bytesN (l.take (k + 1)) = stepN (bytesN (l.take k)) (atR l k) := by
  rw [take_snocR hk]; unfold bytesN; rw [List.foldl_append]; rfl
theorem fold_len : ∀ (l : List (Int × Int)) (a : Nat × (Nat → Nat)), (∀ p ∈ l, p.1.toNat ≤ 8) → (l.foldl stepN a).1 ≤ a.1 + 8 * l.length
  | [], a, _ => by simp
  | p :: l, a, h => by
    have h1 := fold_len l (stepN a p) (fun q hq => h q (List.mem_cons_of_mem _ hq))
    have h2 := h p List.mem_cons_self
    rw [List.foldl_cons, List.length_cons]
    have h3 : (stepN a p).1 = a.1 + p.1.toNat := rfl
    omega
theorem fold_lt : ∀ (l : List (Int × Int)) (a : Nat × (Nat → Nat)), (∀ j, a.2 j < 256) → ∀ j, (l.foldl stepN a).2 j < 256
  | [], a, h => h
  | p :: l, a, h => fold_lt l (stepN a p) fun j => by
    show cat a.1 a.2 (numF p.1.toNat p.2) j < 256
    unfold cat; split
    · exact h j
    · exact numF_lt _ _ _
theorem bytes_lt (l : List (Int × Int)) (j : Nat) : (bytesN l).2 j < 256 := fold_lt l _ (fun j => by show (0 : Nat) < 256; omega) j
/-- The numbers lie one behind the other, from a place on. -/
def Laid (F : Nat → Nat) : Nat → List (Int × Int) → Prop
  | _, [] => True
  | m, p :: l => (∀ j, j < p.1.toNat → F (m + j) = numF p.1.toNat p.2 j) ∧ Laid F (m + p.1.toNat) l
def sizeL : List (Int × Int) → Nat
  | [] => 0
  | p :: l => p.1.toNat + sizeL l
theorem fold_size : ∀ (l : List (Int × Int)) (a : Nat × (Nat → Nat)), (l.foldl stepN a).1 = a.1 + sizeL l
  | [], a => by simp [sizeL]
  | p :: l, a => by
    rw [List.foldl_cons, fold_size l]
    show a.1 + p.1.toNat + sizeL l = a.1 + (p.1.toNat + sizeL l)
    omega
theorem fold_laid : ∀ (l : List (Int × Int)) (a : Nat × (Nat → Nat)), (∀ j, j < a.1 → (l.foldl stepN a).2 j = a.2 j) ∧ Laid (l.foldl stepN a).2 a.1 l
  | [], a => ⟨fun _ _ => rfl, trivial⟩
  | p :: l, a => by
    obtain ⟨h1, h2⟩ := fold_laid l (stepN a p)
    have e : (stepN a p).1 = a.1 + p.1.toNat := rfl
    have c : ∀ j, (stepN a p).2 j = if j < a.1 then a.2 j else numF p.1.toNat p.2 (j - a.1) := fun j => rfl
    rw [List.foldl_cons]
    refine ⟨fun j hj => ?_, fun j hj => ?_, ?_⟩
    · rw [h1 j (by omega), c, if_pos hj]
    · rw [h1 (a.1 + j) (by omega), c, if_neg (by omega), Nat.add_sub_cancel_left]
    · rw [← e]; exact h2
theorem laid_ext {F G : Nat → Nat} : ∀ (l : List (Int × Int)) (m : Nat), (∀ j, j < m + sizeL l → F j = G j) → Laid F m l → Laid G m l
  | [], _, _, _ => trivial
  | p :: l, m, h, hl => by
    have e : sizeL (p :: l) = p.1.toNat + sizeL l := rfl
    exact ⟨fun j hj => (h (m + j) (by omega)).symm.trans (hl.1 j hj), laid_ext l _ (fun j hj => h j (by omega)) hl.2⟩
theorem laid_append {F : Nat → Nat} : ∀ (a b : List (Int × Int)) (m : Nat), Laid F m (a ++ b) → Laid F m a ∧ Laid F (m + sizeL a) b
  | [], b, m, h => ⟨trivial, h⟩
  | p :: a, b, m, h => by
    obtain ⟨h1, h2⟩ := laid_append a b _ h.2
    refine ⟨⟨h.1, h1⟩, ?_⟩
    have e : sizeL (p :: a) = p.1.toNat + sizeL a := rfl
    rw [e, ← Nat.add_assoc]; exact h2
/-- A number told from its bytes. -/
theorem laid_val {F : Nat → Nat} {m s : Nat} {z : Int} (h : ∀ j, j < s → F (m + j) = numF s z j) (hs : IsSize s) (hz : fitsN s z) (hb : okI z) : IntKind.i64.wrap (valN s (fun j => F (m + j)) : Nat) = z := by
  rw [valN_ext s (g' := numF s z) h]; exact val_fits hs hz hb
theorem sizeL_append : ∀ a b : List (Int × Int), sizeL (a ++ b) = sizeL a + sizeL b
  | [], b => by simp [sizeL]
  | p :: a, b => by
    rw [List.cons_append]; show p.1.toNat + sizeL (a ++ b) = p.1.toNat + sizeL a + sizeL b
    rw [sizeL_append a b]; omega
def offS : List Int → Nat
  | [] => 0
  | s :: ss => s.toNat + offS ss
def valsF (G : Nat → Nat) : Nat → List Int → List Int
  | _, [] => []
  | m, s :: ss => IntKind.i64.wrap (valN s.toNat (fun j => G (m + j)) : Nat) :: valsF G (m + s.toNat) ss
theorem vals_len (G : Nat → Nat) : ∀ (m : Nat) (ss : List Int), (valsF G m ss).length = ss.length
  | _, [] => rfl
  | m, s :: ss => by show (valsF G _ ss).length + 1 = ss.length + 1; rw [vals_len G _ ss]
theorem off_snoc : ∀ (ss : List Int) (s : Int), offS (ss ++ [s]) = offS ss + s.toNat
  | [], s => by show s.toNat + 0 = 0 + s.toNat; omega
  | t :: ss, s => by show t.toNat + offS (ss ++ [s]) = t.toNat + offS ss + s.toNat; rw [off_snoc ss s]; omega
theorem vals_snoc (G : Nat → Nat) : ∀ (m : Nat) (ss : List Int) (s : Int), valsF G m (ss ++ [s]) = valsF G m ss ++ [IntKind.i64.wrap (valN s.toNat (fun j => G (m + offS ss + j)) : Nat)]
  | m, [], s => rfl
  | m, t :: ss, s => by
    show _ :: valsF G (m + t.toNat) (ss ++ [s]) = _ :: (valsF G (m + t.toNat) ss ++ _)
    rw [vals_snoc G _ ss s, show m + t.toNat + offS ss = m + offS (t :: ss) by show _ = m + (t.toNat + offS ss); omega]
theorem off_take {ss : List Int} {k : Nat} (hk : k < ss.length) : ss.take (k + 1) = ss.take k ++ [ss.getD k 0] := by
  rw [List.take_add_one, List.getD_eq_getElem?_getD, List.getElem?_eq_getElem hk]; rfl
theorem off_le : ∀ (ss : List Int) (k : Nat), offS (ss.take k) ≤ offS ss
  | [], k => by simp [offS]
  | s :: ss, 0 => Nat.zero_le _
  | s :: ss, k + 1 => by
    have := off_le ss k
    show s.toNat + offS (ss.take k) ≤ s.toNat + offS ss
    omega
theorem bytes_same {w w' : World} {D m : Nat} {F : Nat → Nat} (h : BytesAt w (some ⟨D, 0, none⟩) m F) (hD : w'.heap[D]? = w.heap[D]?) (hs : w.heap.size ≤ w'.heap.size) : BytesAt w' (some ⟨D, 0, none⟩) m F :=
  h.imp id fun ⟨B, o, e, hl, hc⟩ => ⟨B, o, e, by omega, fun j hj => by
    cases e
    exact (World.cell?_of_block (w := w) (a := ⟨D, 0 + j, none⟩) hD).trans (hc j hj)⟩
section
variable {ops : Array Oper} {rest : List Oper} {o : Oper} {a : Act} {w : World} {Q : Exit → Act → World → Prop}
theorem wpList_int_elem (hgd : o.guard = none) (x y : Operand) (ho : o.op = .indexAddr 63 x y) (B off n cap k : Nat) (hx : a.eval x = .slice (some ⟨B, off, none⟩) n cap) (hy : a.eval y = .int .i64 k) (hk : k < n) (h : wpList Try.prog ops Q rest (a.put o.dst (.pointer (some ⟨B, off + k, none⟩))) w) : wpList Try.prog ops Q (o :: rest) a w :=
  wpList_plain hgd fun K hK => by
    unfold Oper.wp
    rw [int_addr x y ho B off n cap k hx hy hk w]
    exact hK _ _ h
end
def errN (z : Int) : Value := if z = 0 then .nilIface else .iface 38 (.int .i64 z)
theorem errN_zero : errN 0 = .nilIface := if_pos rfl
theorem errN_not {z : Int} (h : z ≠ 0) : errN z = .iface 38 (.int .i64 z) := if_neg h
end Go.Proofs.Ytkibeddfkenlkaa

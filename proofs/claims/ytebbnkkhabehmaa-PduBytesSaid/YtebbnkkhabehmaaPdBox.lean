/- What pdu's texts share: what a world keeps, things in boxes, one list of all things. Conditions: as each says. -/
import Derived.Test.YtebbnkkhabehmaaTrVal
import Derived.Test.YtebbnkkhabehmaaTrGives
import Derived.Test.YtebbnkkhabehmaaPlFree
import Derived.Test.YtebbnkkhabehmaaWdAll
import Derived.Test.YtebbnkkhabehmaaRdErr
import Derived.Test.YtebbnkkhabehmaaCopyW
import Derived.LoopIn
import Derived.Laws.StructEq
import Derived.Laws.IdiomCopy
import Derived.Lib.SmallJoins
import Derived.ChangeMaps5
namespace Go.Proofs.Ytebbnkkhabehmaa
open Go.ChangeShapes Go.WideShapes Go.ChangeAt Go.RowKit Go.Shelf
set_option linter.unusedVariables false
set_option linter.unusedSimpArgs false
def okI (z : Int) : Prop := -9223372036854775808 ≤ z ∧ z ≤ 9223372036854775807
/-! ### What a world keeps -/
/-- All that was there lies as it lay, but for the blocks in S. -/
structure Keeps (S : Nat → Prop) (w w' : World) : Prop where
  os : w'.os = w.os
  tape : w'.tape = w.tape
  output : w'.output = w.output
  size : w.heap.size ≤ w'.heap.size
  block : ∀ k, k < w.heap.size → ¬ S k → w'.heap[k]? = w.heap[k]?
namespace Keeps
variable {S : Nat → Prop} {w w' w'' : World}
theorem refl (S : Nat → Prop) (w : World) : Keeps S w w := ⟨rfl, rfl, rfl, Nat.le_refl _, fun _ _ _ => rfl⟩
theorem trans (h : Keeps S w w') (k : Keeps S w' w'') : Keeps S w w'' :=
  ⟨k.os.trans h.os, k.tape.trans h.tape, k.output.trans h.output, Nat.le_trans h.size k.size, fun i hi hn => (k.block i (Nat.lt_of_lt_of_le hi h.size) hn).trans (h.block i hi hn)⟩
theorem mono {S' : Nat → Prop} (h : Keeps S w w') (hs : ∀ k, k < w.heap.size → S k → S' k) : Keeps S' w w' := ⟨h.os, h.tape, h.output, h.size, fun i hi hn => h.block i hi (fun e => hn (hs i hi e))⟩
theorem of (h : Below w.heap.size w w') : Keeps S w w' := ⟨h.os, h.tape, h.output, h.size, fun k hk _ => h.block k hk⟩
theorem alloc (h : Keeps S w w') (o : Obj) : Keeps S w (w'.alloc o) := h.trans (.of ((Below.refl _ _).alloc (Nat.le_refl _) _))
theorem drew (h : Keeps S w w') : Keeps S w w'.drew := ⟨h.os, h.tape, h.output, h.size, h.block⟩
theorem setCell (h : Keeps S w w') {B : Nat} (hB : S B) (i : Nat) (v : Value) : Keeps S w (w'.setCell ⟨B, i, none⟩ v) :=
  h.trans ⟨rfl, rfl, rfl, by simp [World.setCell], fun k _ hn => Below.heap_setCell _ _ _ k (fun e => hn (by rw [e]; exact hB))⟩
theorem setRow (h : Keeps S w w') {B : Nat} (hB : S B) (cs : Array Value) : Keeps S w (w'.setRow B cs) :=
  h.trans ⟨rfl, rfl, rfl, by simp, fun k _ hn => setRow_other _ B k cs (fun e => hn (by rw [e]; exact hB))⟩
theorem grown (h : Keeps S w w') {row : Option Nat} (hg : w'.grownBy w'' row) (hr : ∀ k, row = some k → S k) : Keeps S w w'' :=
  h.trans ⟨hg.os, hg.tape, hg.output, hg.size, fun k hk hn => hg.block k hk (fun e => hn (hr k e.symm))⟩
theorem but {B : Nat} (h : Keeps S w w') (hb : But B w' w'') (hB : S B) : Keeps S w w'' :=
  h.trans ⟨hb.low.os, hb.low.tape, hb.low.output, hb.size, fun k hk hn => hb.same k hk (fun e => hn (by rw [e]; exact hB))⟩
theorem below {M : Nat} (h : Keeps S w w') (hM : M ≤ w.heap.size) (hS : ∀ k, k < M → ¬ S k) : Below M w w' := ⟨h.os, h.tape, h.output, h.size, fun k hk => h.block k (by omega) (hS k hk)⟩
theorem blk {C : Nat} {k : IntKind} {t : TypeId} {l : List Int} (h : Keeps S w w') (hC : IntBlk w C k t l) (hn : ¬ S C) : IntBlk w' C k t l := (h.block C hC.lt hn).trans hC
theorem cells {C : Nat} {o : Obj} (h : Keeps S w w') (hC : w.heap[C]? = some o) (hn : ¬ S C) : w'.heap[C]? = some o := (h.block C (Array.getElem?_eq_some_iff.1 hC).1 hn).trans hC
end Keeps


theorem Keeps.trans' {S : Nat → Prop} {w w' w'' : World} (h : Keeps S w w') (k : w''.os = w'.os ∧ w''.tape = w'.tape ∧ w''.output = w'.output ∧ w'.heap.size ≤ w''.heap.size ∧ ∀ k, k < w.heap.size → ¬ S k → w''.heap[k]? = w'.heap[k]?) : Keeps S w w'' :=
  ⟨k.1.trans h.os, k.2.1.trans h.tape, k.2.2.1.trans h.output, Nat.le_trans h.size k.2.2.2.1, fun i hi hn => (k.2.2.2.2 i hi hn).trans (h.block i hi hn)⟩
theorem Keeps.grownL {S : Nat → Prop} {w w' w'' : World} {v : Value} (h : Keeps S w w') (hg : w'.grownBy w'' v.ownBlock) (hr : ∀ k, v.ownBlock = some k → k < w.heap.size → S k) : Keeps S w w'' :=
  h.trans' ⟨hg.os, hg.tape, hg.output, hg.size, fun k hk hn => hg.block k (Nat.lt_of_lt_of_le hk h.size) (fun e => hn (hr k e.symm hk))⟩
def atR (ks : List (Int × Int)) (k : Nat) : Int × Int := ks.getD k (0, 0)
theorem atR_get {ks : List (Int × Int)} {k : Nat} (h : k < ks.length) : ks[k]? = some (atR ks k) := by unfold atR; rw [List.getD_eq_getElem?_getD, List.getElem?_eq_getElem h]; rfl
theorem take_snocR {ks : List (Int × Int)} {j : Nat} (hj : j < ks.length) : ks.take (j + 1) = ks.take j ++ [atR ks j] := by
  have h := atR_get hj
  rw [List.take_add_one, h]; rfl
theorem drop_consR {ks : List (Int × Int)} {j : Nat} (hj : j < ks.length) : ks.drop j = atR ks j :: ks.drop (j + 1) := by
  have h := atR_get hj
  rw [List.getElem?_eq_getElem hj] at h
  rw [List.drop_eq_getElem_cons hj, Option.some.inj h]
/-- A struct of type T in a box. -/
def BoxA (W : World) (O : Nat) (T : TypeId) (A : Array Value) : Prop := W.heap[O]? = some (.cells A T (0, 0))
theorem BoxA.lt {W : World} {O : Nat} {T : TypeId} {A : Array Value} (h : BoxA W O T A) : O < W.heap.size := (Array.getElem?_eq_some_iff.1 h).1
theorem BoxA.keep {W W' : World} {O : Nat} {T : TypeId} {A : Array Value} (h : BoxA W O T A) (hb : W'.heap[O]? = W.heap[O]?) : BoxA W' O T A := hb.trans h
theorem BoxA.cell {W : World} {O : Nat} {T : TypeId} {A : Array Value} (h : BoxA W O T A) (k : Nat) : W.cell? ⟨O, k, none⟩ = A[k]? := cell_of_row _ _ _ _ _ _ h
theorem BoxA.free {W : World} {O : Nat} {T : TypeId} {A : Array Value} (h : BoxA W O T A) (k : Nat) : W.frozen? ⟨O, k, none⟩ = false := frozen_of_row _ _ _ _ _ h
theorem BoxA.alloc (W : World) (T : TypeId) (A : Array Value) : BoxA (W.alloc (.cells A T)) W.heap.size T A := heap_alloc_new W _
theorem BoxA.set {W : World} {O : Nat} {T : TypeId} {A : Array Value} (h : BoxA W O T A) (k : Nat) (v : Value) : BoxA (W.setCell ⟨O, k, none⟩ v) O T (A.setIfInBounds k v) := heap_setCell_same _ _ _ _ _ _ h
/-- What is to be known of a struct's type. -/
structure IsRow (T : TypeId) (sz : Nat) (z : Array Value) : Prop where
  under : ∃ d, Try.prog.underlying T = some d ∧ (match d with | .struct _ | .array _ _ => true | _ => false) = true
  size : (Try.prog.info? T).map (·.size) = some sz
  zero : (Try.prog.info? T).bind (·.zero) = some (.agg z)
  zsize : z.size = sz
theorem IsRow.zero_run {T : TypeId} {sz : Nat} {z : Array Value} (R : IsRow T sz z) (W : World) : (zeroValue T).run Try.prog W = .ok (.agg z) W := by
  have h := R.zero
  cases hq : Try.prog.info? T with
  | none => rw [hq] at h; simp at h
  | some i =>
    rw [hq] at h
    simp only [Option.bind_some] at h
    simp [zeroValue, typeInfo, hq, h]
theorem keeps_row (O : Nat) (cs : Array Value) (w : World) : Keeps (fun k => k = O) w (w.setRow O cs) := (Keeps.refl (fun k => k = O) w).setRow rfl cs
section
variable {ops : Array Oper} {rest : List Oper} {o : Oper} {a : Act} {w : World} {Q : Exit → Act → World → Prop} {T : TypeId} {sz : Nat} {z : Array Value}
theorem wpList_boxA_load (R : IsRow T sz z) (hgd : o.guard = none) (x : Operand) (ho : o.op = .load T x) (O : Nat) (A : Array Value) (hA : A.size = sz) (hx : a.eval x = .pointer (some ⟨O, 0, none⟩)) (hO : BoxA w O T A)
    (h : wpList Try.prog ops Q rest (a.put o.dst (.agg A)) w) : wpList Try.prog ops Q (o :: rest) a w := by
  obtain ⟨d, hu, hd⟩ := R.under
  refine wpList_load_row hgd T x ho O hx T A (0, 0) d hO hu ?_ (by rw [hA]; exact R.size) h
  cases d <;> first | rfl | exact hd
/-- The same, where the load is guarded and wanted. -/
theorem wpList_boxA_loadw (R : IsRow T sz z) (x : Operand) (ho : o.op = .load T x) (hw : Region.wanted o (yielded ops a.tmps) = true) (O : Nat) (A : Array Value) (hA : A.size = sz) (hx : a.eval x = .pointer (some ⟨O, 0, none⟩)) (hO : BoxA w O T A)
    (h : wpList Try.prog ops Q rest (a.put o.dst (.agg A)) w) : wpList Try.prog ops Q (o :: rest) a w := by
  obtain ⟨d, hu, hd⟩ := R.under
  refine wanted_step hw fun K hK => wp_load_row T x ho O hx T A (0, 0) d hO hu ?_ (by rw [hA]; exact R.size) (hK _ _ h)
  cases d <;> first | rfl | exact hd
theorem wpList_boxA_new (R : IsRow T sz z) (ho : o.op = .alloc T) (hw : Region.wanted o (yielded ops a.tmps) = true) (S : Nat) (hS : w.heap.size = S)
    (h : ∀ w', BoxA w' S T z → Below w.heap.size w w' → w'.heap.size = w.heap.size + 1 → wpList Try.prog ops Q rest (a.put o.dst (.pointer (some ⟨S, 0, none⟩))) w') : wpList Try.prog ops Q (o :: rest) a w :=
  wanted_step hw fun K hK => by
    subst hS
    have e := R.zero_run w
    unfold Oper.wp execOp
    simp only [ho]
    simp [go_sem, e]
    exact hK _ _ (h _ (BoxA.alloc w T z) ((Below.refl _ w).alloc (Nat.le_refl _) _) (World.size_alloc _ _))
theorem wpList_boxA_put (R : IsRow T sz z) (hgd : o.guard = none) (x y : Operand) (ho : o.op = .store T x y) (hd : o.dst = none) (O : Nat) (A old : Array Value) (hA : A.size = sz) (h1 : A.all (·.oneCell') = true) (hold : old.size = sz) (hx : a.eval x = .pointer (some ⟨O, 0, none⟩)) (hy : a.eval y = .agg A) (hO : BoxA w O T old)
    (h : ∀ w', BoxA w' O T A → Keeps (fun k => k = O) w w' → w'.heap.size = w.heap.size → wpList Try.prog ops Q rest a w') : wpList Try.prog ops Q (o :: rest) a w :=
  store_row_on hgd T x y ho hd O A hx hy T old hO (by rw [hA]; exact R.size) (hold.trans hA.symm) h1 (h _ (setRow_heap _ _ _ _ _ (0, 0) hO) (keeps_row O _ w) (by simp))
theorem wpList_boxA_of (hgd : o.guard = none) (x : Operand) (ho : o.op = .box T x) (A : Array Value) (hx : a.eval x = .agg A)
    (h : ∀ w', BoxA w' w.heap.size T A → Below w.heap.size w w' → w'.heap.size = w.heap.size + 1 → wpList Try.prog ops Q rest (a.put o.dst (.pointer (some ⟨w.heap.size, 0, none⟩))) w') : wpList Try.prog ops Q (o :: rest) a w :=
  wpList_plain hgd fun K hK => by
    unfold Oper.wp execOp
    simp only [ho, hx]
    simp [go_sem]
    exact hK _ _ (h _ (BoxA.alloc w T A) ((Below.refl _ w).alloc (Nat.le_refl _) _) (World.size_alloc _ _))
end
theorem box_bool (w : World) : (isAgg 4).run Try.prog w = .ok false w := by simp [go_sem]
/-- What is to be known of a type of one cell. -/
structure IsOne (T : TypeId) (z : Value) : Prop where
  agg : ∀ w, (isAgg T).run Try.prog w = .ok false w
  zero : ∀ w, (zeroValue T).run Try.prog w = .ok z w
  cells : z.cells = #[z]
theorem oneInt : IsOne 3 (.int .i64 0) := ⟨fun w => by simp [go_sem], fun w => by simp [go_sem], rfl⟩
theorem oneBool : IsOne 4 (.bool false) := ⟨fun w => by simp [go_sem], fun w => by simp [go_sem], rfl⟩
theorem oneBytes : IsOne 22 (.slice none 0 0) := ⟨fun w => by simp [go_sem], fun w => by simp [go_sem], rfl⟩
section
variable {ops : Array Oper} {rest : List Oper} {o : Oper} {a : Act} {w : World} {Q : Exit → Act → World → Prop} {T : TypeId} {z : Value}
theorem done_one_new {K : Value → World → Prop} (R : IsOne T z) (ho : o.op = .alloc T)
    (h : ∀ w', BoxA w' w.heap.size T #[z] → Below w.heap.size w w' → w'.heap.size = w.heap.size + 1 → K (.pointer (some ⟨w.heap.size, 0, none⟩)) w') : doneAt Try.prog o a w K := by
  have e := R.zero w
  have ec := R.cells
  simp only [Value.cells] at ec
  have hh := h _ (BoxA.alloc w T #[z]) ((Below.refl _ w).alloc (Nat.le_refl _) _) (World.size_alloc _ _)
  unfold doneAt execOp
  simp only [ho]
  simp [go_sem, e, ec, doneUpon]
  exact hh
theorem wpList_one_new (R : IsOne T z) (hw : Region.wanted o (yielded ops a.tmps) = true) (ho : o.op = .alloc T) (S : Nat) (hS : w.heap.size = S)
    (h : ∀ w', BoxA w' S T #[z] → Below w.heap.size w w' → w'.heap.size = w.heap.size + 1 → wpList Try.prog ops Q rest (a.put o.dst (.pointer (some ⟨S, 0, none⟩))) w') : wpList Try.prog ops Q (o :: rest) a w :=
  wanted_step hw fun K hK => by
    subst hS
    have e := R.zero w
    have ec := R.cells
    simp only [Value.cells] at ec
    unfold Oper.wp execOp
    simp only [ho]
    simp [go_sem, e, ec]
    exact hK _ _ (h _ (BoxA.alloc w T #[z]) ((Below.refl _ w).alloc (Nat.le_refl _) _) (World.size_alloc _ _))
theorem done_int_put {K : Value → World → Prop} (x y : Operand) (ho : o.op = .store 3 x y) (O : Nat) (u v : Int) (hx : a.eval x = .pointer (some ⟨O, 0, none⟩)) (hy : a.eval y = .int .i64 v) (hO : BoxA w O 3 #[.int .i64 u])
    (h : ∀ w', BoxA w' O 3 #[.int .i64 v] → Keeps (fun j => j = O) w w' → w'.heap.size = w.heap.size → K undef w') : doneAt Try.prog o a w K := by
  have hc : w.cell? ⟨O, 0, none⟩ = some (.int .i64 u) := hO.cell 0
  have hf := hO.free 0
  have hh := h _ (hO.set 0 (.int .i64 v)) ((Keeps.refl (fun j => j = O) w).setCell rfl 0 (.int .i64 v)) (by simp [World.setCell])
  unfold doneAt execOp
  simp only [ho, hx, hy]
  simp [go_sem, hc, hf, doneUpon]
  exact hh
theorem done_bytes_put {K : Value → World → Prop} (x y : Operand) (ho : o.op = .store 22 x y) (O : Nat) (u : Value) (p : Option Addr) (n c : Nat) (hx : a.eval x = .pointer (some ⟨O, 0, none⟩)) (hy : a.eval y = .slice p n c) (hO : BoxA w O 22 #[u])
    (h : ∀ w', BoxA w' O 22 #[.slice p n c] → Keeps (fun j => j = O) w w' → w'.heap.size = w.heap.size → K undef w') : doneAt Try.prog o a w K := by
  have hc : w.cell? ⟨O, 0, none⟩ = some u := hO.cell 0
  have hf := hO.free 0
  have hh := h _ (hO.set 0 (.slice p n c)) ((Keeps.refl (fun j => j = O) w).setCell rfl 0 (.slice p n c)) (by simp [World.setCell])
  unfold doneAt execOp
  simp only [ho, hx, hy]
  simp [go_sem, hc, hf, doneUpon]
  exact hh
theorem wpList_int_put (hgd : o.guard = none) (x y : Operand) (ho : o.op = .store 3 x y) (hd : o.dst = none) (O : Nat) (u v : Int) (hx : a.eval x = .pointer (some ⟨O, 0, none⟩)) (hy : a.eval y = .int .i64 v) (hO : BoxA w O 3 #[.int .i64 u])
    (h : ∀ w', BoxA w' O 3 #[.int .i64 v] → Keeps (fun j => j = O) w w' → w'.heap.size = w.heap.size → wpList Try.prog ops Q rest a w') : wpList Try.prog ops Q (o :: rest) a w :=
  wpList_plain hgd fun K hK => by
    have hc : w.cell? ⟨O, 0, none⟩ = some (.int .i64 u) := hO.cell 0
    have hf := hO.free 0
    have hh := hK _ _ (h _ (hO.set 0 (.int .i64 v)) ((Keeps.refl (fun j => j = O) w).setCell rfl 0 (.int .i64 v)) (by simp [World.setCell]))
    unfold Oper.wp execOp
    simp only [ho, hx, hy]
    simp [go_sem, hc, hf, hd]
    exact hh
theorem wpList_bool_put (hgd : o.guard = none) (x y : Operand) (ho : o.op = .store 4 x y) (hd : o.dst = none) (O : Nat) (b d : Bool) (hx : a.eval x = .pointer (some ⟨O, 0, none⟩)) (hy : a.eval y = .bool b) (hO : BoxA w O 4 #[.bool d])
    (h : ∀ w', BoxA w' O 4 #[.bool b] → Keeps (fun j => j = O) w w' → w'.heap.size = w.heap.size → wpList Try.prog ops Q rest a w') : wpList Try.prog ops Q (o :: rest) a w :=
  wpList_plain hgd fun K hK => by
    have hc : w.cell? ⟨O, 0, none⟩ = some (.bool d) := hO.cell 0
    have hf := hO.free 0
    have hh := hK _ _ (h _ (hO.set 0 (.bool b)) ((Keeps.refl (fun j => j = O) w).setCell rfl 0 (.bool b)) (by simp [World.setCell]))
    unfold Oper.wp execOp
    simp only [ho, hx, hy]
    simp [go_sem, hc, hf, hd]
    exact hh
theorem wpList_one_of (hgd : o.guard = none) (x : Operand) (ho : o.op = .box T x) (v : Value) (hv : v.cells = #[v]) (hx : a.eval x = v)
    (h : ∀ w', BoxA w' w.heap.size T #[v] → Below w.heap.size w w' → w'.heap.size = w.heap.size + 1 → wpList Try.prog ops Q rest (a.put o.dst (.pointer (some ⟨w.heap.size, 0, none⟩))) w') : wpList Try.prog ops Q (o :: rest) a w :=
  wpList_plain hgd fun K hK => by
    have ec := hv
    simp only [Value.cells] at ec
    unfold Oper.wp execOp
    simp only [ho, hx]
    simp [go_sem, ec]
    exact hK _ _ (h _ (BoxA.alloc w T #[v]) ((Below.refl _ w).alloc (Nat.le_refl _) _) (World.size_alloc _ _))
end
/-- A box and what lies in it. -/
def bxO (O : Nat) (T : TypeId) (A : Array Value) : Nat × Obj := (O, .cells A T (0, 0))
def mkO (D : Nat) : Nat × Obj := (D, .deferred (some []))
/-- Things that lie in a world, each at its own place, behind what was there before. -/
structure LwB (w : World) (L : List (Nat × Obj)) (V : World) : Prop where
  box : ∀ {i : Nat} {x : Nat × Obj}, L[i]? = some x → V.heap[x.1]? = some x.2 ∧ w.heap.size ≤ x.1
  low : Below w.heap.size w V
  dis : ∀ {i j : Nat} {x y : Nat × Obj}, L[i]? = some x → L[j]? = some y → x.1 = y.1 → i = j
theorem LwB.bx {w V : World} {L : List (Nat × Obj)} (h : LwB w L V) {i O : Nat} {T : TypeId} {A : Array Value} (hi : L[i]? = some (bxO O T A)) : BoxA V O T A := (h.box hi).1
theorem LwB.mark {w V : World} {L : List (Nat × Obj)} (h : LwB w L V) {i D : Nat} (hi : L[i]? = some (mkO D)) : V.heap[D]? = some (.deferred (some [])) := (h.box hi).1
theorem LwB.lt {w V : World} {L : List (Nat × Obj)} (h : LwB w L V) {i : Nat} {x : Nat × Obj} (hi : L[i]? = some x) : x.1 < V.heap.size := (Array.getElem?_eq_some_iff.1 (h.box hi).1).1
theorem LwB.ne {w V : World} {L : List (Nat × Obj)} (h : LwB w L V) {i j : Nat} {x y : Nat × Obj} (hi : L[i]? = some x) (hj : L[j]? = some y) (hn : i ≠ j) : x.1 ≠ y.1 := fun e => hn (h.dis hi hj e)
theorem LwB.none (w : World) : LwB w [] w := ⟨fun {i x} hi => by simp at hi, Below.refl _ _, fun {i j x y} hi => by simp at hi⟩
theorem LwB.mono {w V V' : World} {L : List (Nat × Obj)} (h : LwB w L V) (hb : Below V.heap.size V V') : LwB w L V' :=
  ⟨fun hi => ⟨(hb.block _ (h.lt hi)).trans (h.box hi).1, (h.box hi).2⟩, h.low.trans (hb.mono h.low.size), h.dis⟩
theorem LwB.add {w V V' : World} {L : List (Nat × Obj)} {J : Nat} {x : Obj} (h : LwB w L V) (hb : Below V.heap.size V V') (hx : V'.heap[J]? = some x) (hJ : V.heap.size ≤ J) : LwB w ((J, x) :: L) V' := by
  have h1 := h.mono hb
  refine ⟨fun {i y} hi => ?_, h1.low, fun {i j y z} hi hj e => ?_⟩
  · rcases i with _ | i
    · obtain rfl : (J, x) = y := by simpa using hi
      exact ⟨hx, Nat.le_trans h.low.size hJ⟩
    · exact h1.box (by simpa using hi)
  · rcases i with _ | i <;> rcases j with _ | j
    · rfl
    · obtain rfl : (J, x) = y := by simpa using hi
      have := h.lt (i := j) (x := z) (by simpa using hj)
      simp only at e
      omega
    · obtain rfl : (J, x) = z := by simpa using hj
      have := h.lt (i := i) (x := y) (by simpa using hi)
      simp only at e
      omega
    · rw [h.dis (i := i) (j := j) (by simpa using hi) (by simpa using hj) e]
theorem LwB.put {w V V' : World} {L : List (Nat × Obj)} (h : LwB w L V) (i : Nat) {O : Nat} {x x' : Obj} (hi : L[i]? = some (O, x)) (hx : V'.heap[O]? = some x') (k : Keeps (fun j => j = O) V V') : LwB w (L.set i (O, x')) V' := by
  have hg : ∀ {j : Nat} {y : Nat × Obj}, (L.set i (O, x'))[j]? = some y → (j = i ∧ y = (O, x')) ∨ (j ≠ i ∧ L[j]? = some y) := fun {j y} hj => by
    rw [List.getElem?_set] at hj
    split at hj
    · rename_i e
      split at hj
      · exact .inl ⟨e.symm, by simpa using hj.symm⟩
      · cases hj
    · rename_i e
      exact .inr ⟨fun e' => e e'.symm, hj⟩
  refine ⟨fun {j y} hj => ?_, h.low.trans (k.below h.low.size (fun j hj e => by have := (h.box hi).2; simp only at this; omega)), fun {j l y z} hj hl e => ?_⟩
  · rcases hg hj with ⟨rfl, rfl⟩ | ⟨hn, hj⟩
    · exact ⟨hx, (h.box hi).2⟩
    · exact ⟨(k.block _ (h.lt hj) (fun e => hn (h.dis hj hi e))).trans (h.box hj).1, (h.box hj).2⟩
  · rcases hg hj with ⟨ej, rfl⟩ | ⟨hn, hj'⟩ <;> rcases hg hl with ⟨el, rfl⟩ | ⟨hm, hl'⟩
    · exact ej.trans el.symm
    · exact ej.trans (h.dis hl' hi e.symm).symm
    · exact (h.dis hj' hi e).trans el.symm
    · exact h.dis hj' hl' e
/-- Between two rounds of a walk: the things, and what the iterator reads. -/
structure LoS (w w5 : World) (T : Nat → Prop) (L : List (Nat × Obj)) (V : World) : Prop where
  b : LwB w L V
  top : ∀ {i : Nat} {x : Nat × Obj}, L[i]? = some x → x.1 < w5.heap.size
  it : ∀ k, T k → V.heap[k]? = w5.heap[k]?
  big : w5.heap.size ≤ V.heap.size
theorem LoS.of {w w5 : World} (T : Nat → Prop) {L : List (Nat × Obj)} (h : LwB w L w5) : LoS w w5 T L w5 := ⟨h, fun hi => h.lt hi, fun _ _ => rfl, Nat.le_refl _⟩
theorem LoS.save {w w5 V V' : World} {T : Nat → Prop} {L : List (Nat × Obj)} (h : LoS w w5 T L V) (hT : ∀ k, T k → k < w5.heap.size) (hw : w.heap.size ≤ w5.heap.size) (hs : Save w5.heap.size V V') : LoS w w5 T L V' := by
  have hk : ∀ k, k < w5.heap.size → V'.heap[k]? = V.heap[k]? := fun k hk => hs.same k (by have := h.big; omega) (by omega) (by omega)
  exact ⟨⟨fun hi => ⟨(hk _ (h.top hi)).trans (h.b.box hi).1, (h.b.box hi).2⟩, ⟨hs.os.trans h.b.low.os, hs.tape.trans h.b.low.tape, hs.output.trans h.b.low.output, Nat.le_trans h.b.low.size hs.size, fun k hk' => (hk k (by omega)).trans (h.b.low.block k hk')⟩, h.b.dis⟩,
    h.top, fun k hk' => (hk k (hT k hk')).trans (h.it k hk'), Nat.le_trans h.big hs.size⟩
theorem LoS.mono {w w5 V V' : World} {T : Nat → Prop} {L : List (Nat × Obj)} (h : LoS w w5 T L V) (hT : ∀ k, T k → k < w5.heap.size) (hb : Below V.heap.size V V') : LoS w w5 T L V' :=
  ⟨h.b.mono hb, h.top, fun k hk => (hb.block k (by have := hT k hk; have := h.big; omega)).trans (h.it k hk), Nat.le_trans h.big hb.size⟩
theorem LoS.put {w w5 V V' : World} {T : Nat → Prop} {L : List (Nat × Obj)} (h : LoS w w5 T L V) (hT : ∀ k, T k → k < w5.heap.size) (i : Nat) {O : Nat} {x x' : Obj} (hi : L[i]? = some (O, x)) (hO : ¬ T O) (hx : V'.heap[O]? = some x') (k : Keeps (fun j => j = O) V V') (hz : V'.heap.size = V.heap.size) : LoS w w5 T (L.set i (O, x')) V' := by
  refine ⟨h.b.put i hi hx k, fun {j y} hj => ?_, fun l hl => (k.block l (by have := hT l hl; have := h.big; omega) (fun e => hO (e ▸ hl))).trans (h.it l hl), by rw [hz]; exact h.big⟩
  rw [List.getElem?_set] at hj
  split at hj
  · split at hj
    · obtain rfl : (O, x') = y := by simpa using hj
      have := h.top hi
      exact this
    · cases hj
  · exact h.top hj
theorem rec_put {w5 V V' : World} {O : Nat} (k : Keeps (fun j => j = O) V V') (hz : V'.heap.size = V.heap.size) (hO : O < w5.heap.size) (hb : w5.heap.size + 2 ≤ V.heap.size) : Rec w5.heap.size V V' :=
  ⟨by rw [hz]; exact Nat.le_refl _, k.block _ (by omega) (by omega), k.block _ (by omega) (by omega)⟩
theorem rec_low {w5 V V' : World} (k : Below V.heap.size V V') (hb : w5.heap.size + 2 ≤ V.heap.size) : Rec w5.heap.size V V' :=
  ⟨k.size, k.block _ (by omega), k.block _ (by omega)⟩
theorem LoS.mark {w w5 V : World} {T : Nat → Prop} {L : List (Nat × Obj)} {D : Nat} (h : LoS w w5 T L V) (hw : w.heap.size ≤ w5.heap.size) (hD : w5.heap.size ≤ D) (hd : V.heap[D]? = some (.deferred (some []))) : LwB w (mkO D :: L) V := by
  refine ⟨fun {i y} hi => ?_, h.b.low, fun {i j y z} hi hj e => ?_⟩
  · rcases i with _ | i
    · obtain rfl : mkO D = y := by simpa using hi
      exact ⟨hd, by show w.heap.size ≤ D; omega⟩
    · exact h.b.box (by simpa using hi)
  · rcases i with _ | i <;> rcases j with _ | j
    · rfl
    · obtain rfl : mkO D = y := by simpa using hi
      have := h.top (i := j) (x := z) (by simpa using hj)
      have e' : D = z.1 := e
      omega
    · obtain rfl : mkO D = z := by simpa using hj
      have := h.top (i := i) (x := y) (by simpa using hi)
      have e' : y.1 = D := e
      omega
    · rw [h.b.dis (i := i) (j := j) (by simpa using hi) (by simpa using hj) e]
theorem LwB.drew {w V : World} {L : List (Nat × Obj)} (h : LwB w L V) : LwB w L V.drew := ⟨fun hi => h.box hi, h.low.drew, h.dis⟩
section
variable {P : Program} {ops : Array Oper} {Q : Exit → Act → World → Prop} {n lr : Nat}
theorem round_sched {id : Nat} {a : Act} {w : World} {l : List Oper} (s : List (Nat × Bool)) (C : World → Prop) (hm : P.follows .mixedOrders = true) (hB : (Region.noSelect l.toArray && decide (s.length = l.length) && schedB .any l.toArray s (Array.replicate l.length false)) = true) (hd : l.all noDefer = true) (hq : ¬ LetsOut Q) (hC : C w.drew)
    (h : walkS P l.toArray C (fun a' w' => Q .normal a' w') s a w.drew) : (Code.region id l.toArray true).wpIn (Fence.wide.inRound lr) n P Q a w := by
  simp only [Bool.and_eq_true, decide_eq_true_eq] at hB
  refine wpIn_region_any hm (wpAnyIn_round (fun o ho => List.all_eq_true.1 hd o (by simpa using ho)) hq _ _ _ _ ?_)
  have := any_of_anyC (Q := Q) (fun a w _ h => h) _ _ _ _ hC (anyC_sched (md := .any) hB.1.1 s _ a w.drew hC hB.2 h)
  rw [hB.1.2] at this
  simpa using this
end
def errN (z : Int) : Value := if z = 0 then .nilIface else .iface 35 (.int .i64 z)
theorem errN_zero : errN 0 = .nilIface := if_pos rfl
theorem errN_not {z : Int} (h : z ≠ 0) : errN z = .iface 35 (.int .i64 z) := if_neg h
end Go.Proofs.Ytebbnkkhabehmaa

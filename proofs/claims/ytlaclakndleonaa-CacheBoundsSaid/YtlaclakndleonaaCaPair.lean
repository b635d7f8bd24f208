/- The cache and the document's, side by side between two calls, with the law's own blocks; lines of a slice written over. Condition: package cache does as CacheSpec says. -/
import Derived.Test.YtlaclakndleonaaCaNone
namespace Go.Proofs.Ytlaclakndleonaa
open Go.ChangeShapes Go.WideShapes Go.ChangeAt Go.RowKit
set_option linter.unusedVariables false
theorem but_setCells (B : Nat) : ∀ (vs : List Value) (o : Nat) (w : World), But B w (w.setCells B o vs)
  | [], _, w => But.of (Below.refl _ w)
  | v :: r, o, w => (But.setCell B o w v).trans (but_setCells B r (o + 1) _)
theorem size_setCells (B : Nat) : ∀ (vs : List Value) (o : Nat) (w : World), (w.setCells B o vs).heap.size = w.heap.size
  | [], _, _ => rfl
  | v :: r, o, w => by
    have h := size_setCells B r (o + 1) (w.setCell ⟨B, o, none⟩ v)
    have h2 : (w.setCell ⟨B, o, none⟩ v).heap.size = w.heap.size := by simp [World.setCell]
    exact h.trans h2
/-- A block with room for n lines, which may be written. -/
def LinesB (W : World) (LB n : Nat) : Prop := ∃ cur, W.heap[LB]? = some (.cells cur 42 (0, 0)) ∧ n * 131 ≤ cur.size
theorem LinesB.setCells {LB n : Nat} : ∀ (vs : List Value) (o : Nat) {W : World}, LinesB W LB n → LinesB (W.setCells LB o vs) LB n
  | [], _, _, h => h
  | v :: r, o, W, ⟨cur, h1, h2⟩ => LinesB.setCells r (o + 1) ⟨cur.setIfInBounds o v, heap_setCell_same _ _ _ _ _ _ h1, by rw [Array.size_setIfInBounds]; exact h2⟩
theorem LinesB.there {W : World} {LB n i : Nat} (h : LinesB W LB n) (hi : i < n) : W.there LB (131 * i) 131 := by
  obtain ⟨cur, h1, h2⟩ := h
  intro j hj
  have hlt : 131 * i + j < cur.size := by
    have : (i + 1) * 131 ≤ n * 131 := Nat.mul_le_mul_right _ hi
    omega
  refine ⟨?_, frozen_of_row _ _ _ _ _ h1⟩
  rw [cell_of_row _ _ _ _ _ _ h1, Array.getElem?_eq_getElem hlt]; rfl
theorem LinesB.keep {W W' : World} {LB n : Nat} (h : LinesB W LB n) (hb : W'.heap[LB]? = W.heap[LB]?) : LinesB W' LB n := by
  obtain ⟨cur, h1, h2⟩ := h
  exact ⟨cur, hb.trans h1, h2⟩
theorem OwnL.linesB {w : World} {base top LB n c : Nat} {l : List LineOf} (h : OwnL 42 131 lineC w base top (.slice (some ⟨LB, 0, none⟩) n c) l) : LinesB w LB l.length ∧ base ≤ LB ∧ LB < top := by
  rcases h with ⟨h1, _⟩ | ⟨B, c', cur, h1, h2, h3, h4, h5, h6, h7, h8⟩
  · cases h1
  · injection h1 with e1 e2 e3
    injection e1 with e1
    injection e1 with e1
    subst e1
    exact ⟨⟨cur, h4, by rw [h7]; exact Nat.mul_le_mul_right _ h5⟩, h2, h3⟩
theorem OwnL.shape {w : World} {base top : Nat} {v : Value} {l : List LineOf} (h : OwnL 42 131 lineC w base top v l) : (v = .slice none 0 0 ∧ l = []) ∨ ∃ LB c, v = .slice (some ⟨LB, 0, none⟩) l.length c := by
  rcases h with h1 | ⟨LB, c, cur, h1, _⟩
  · exact .inl h1
  · exact .inr ⟨LB, c, h1⟩
/-! ### Both caches -/
/-- The law's own blocks X stand apart from both caches'. -/
def PSt (At : AtT) (w W : World) (B RB : Nat) (q : Int) (ls ms : List LineOf) (t : Nat) (X : Nat → Prop) : Prop :=
  ∃ S v, At W S B q ls t ∧ RefC W RB q v ms ∧ (∀ k, S k → w.heap.size ≤ k ∧ ¬ refS RB v k) ∧ (∀ k, refS RB v k → w.heap.size ≤ k) ∧ (∀ k, X k → k < W.heap.size ∧ ¬ S k ∧ ¬ refS RB v k) ∧ Below w.heap.size w W
/-- The law's blocks stand. -/
def Fr (X : Nat → Prop) (W W' : World) : Prop := W.heap.size ≤ W'.heap.size ∧ ∀ k, X k → W'.heap[k]? = W.heap[k]?
theorem Fr.trans {X : Nat → Prop} {W W' W'' : World} (h : Fr X W W') (k : Fr X W' W'') : Fr X W W'' := ⟨Nat.le_trans h.1 k.1, fun i hi => (k.2 i hi).trans (h.2 i hi)⟩
theorem Fr.of {X : Nat → Prop} {W W' : World} (h : Below W.heap.size W W') (hX : ∀ k, X k → k < W.heap.size) : Fr X W W' := ⟨h.size, fun k hk => h.block k (hX k hk)⟩
section
variable {At : AtT} {w W W' : World} {B RB : Nat} {q : Int} {ls ls' ms ms' : List LineOf} {t t' : Nat} {X Y : Nat → Prop}
theorem PSt.low (h : PSt At w W B RB q ls ms t X) : Below w.heap.size w W := by obtain ⟨_, _, _, _, _, _, _, h⟩ := h; exact h
theorem PSt.xlt (h : PSt At w W B RB q ls ms t X) : ∀ k, X k → k < W.heap.size := by obtain ⟨_, _, _, _, _, _, h, _⟩ := h; exact fun k hk => (h k hk).1
theorem PSt.good (K : CacheSpec At) (h : PSt At w W B RB q ls ms t X) : GoodL q ls := by obtain ⟨S, v, h1, _⟩ := h; exact K.good h1
theorem PSt.ref (h : PSt At w W B RB q ls ms t X) : ∃ v, RefC W RB q v ms := by obtain ⟨S, v, _, h2, _⟩ := h; exact ⟨v, h2⟩
theorem PSt.mono (h : PSt At w W B RB q ls ms t X) (hY : ∀ k, Y k → X k) : PSt At w W B RB q ls ms t Y := by
  obtain ⟨S, v, h1, h2, h3, h4, h5, h6⟩ := h
  exact ⟨S, v, h1, h2, h3, h4, fun k hk => h5 k (hY k hk), h6⟩
theorem PSt.below (K : CacheSpec At) (h : PSt At w W B RB q ls ms t X) (hb : Below W.heap.size W W') : PSt At w W' B RB q ls ms t (fun k => X k ∨ (W.heap.size ≤ k ∧ k < W'.heap.size)) := by
  obtain ⟨S, v, h1, h2, h3, h4, h5, h6⟩ := h
  refine ⟨S, v, K.keep h1 hb.size (fun k hk => hb.block k (K.lt h1 k hk)), h2.below hb, h3, h4, fun k hk => ?_, h6.trans (hb.mono h6.size)⟩
  rcases hk with hk | ⟨e1, e2⟩
  · have := h5 k hk
    exact ⟨Nat.lt_of_lt_of_le this.1 hb.size, this.2⟩
  · exact ⟨e2, fun e => by have := K.lt h1 k e; omega, fun e => by have := h2.own_lt e; omega⟩
theorem PSt.wrote (K : CacheSpec At) (h : PSt At w W B RB q ls ms t X) (hk : Keeps Y W W') (hY : ∀ k, Y k → X k) (hYw : ∀ k, Y k → w.heap.size ≤ k) : PSt At w W' B RB q ls ms t X := by
  obtain ⟨S, v, h1, h2, h3, h4, h5, h6⟩ := h
  exact ⟨S, v, K.keep h1 hk.size (fun k hs => hk.block k (K.lt h1 k hs) (fun e => (h5 k (hY k e)).2.1 hs)), h2.keeps hk (fun k hs e => (h5 k (hY k e)).2.2 hs), h3, h4, fun k hx => ⟨Nat.lt_of_lt_of_le (h5 k hx).1 hk.size, (h5 k hx).2⟩, h6.trans (hk.below h6.size (fun k hk2 e => by have := hYw k e; omega))⟩
theorem PSt.prog {S : Nat → Prop} {v : Value} (K : CacheSpec At) (h2 : RefC W RB q v ms) (h3 : ∀ k, S k → w.heap.size ≤ k ∧ ¬ refS RB v k) (h4 : ∀ k, refS RB v k → w.heap.size ≤ k) (h5 : ∀ k, X k → k < W.heap.size ∧ ¬ S k ∧ ¬ refS RB v k) (h6 : Below w.heap.size w W)
    (hT : ToAt At W W' S B q ls' t') : PSt At w W' B RB q ls' ms t' X ∧ Fr X W W' := by
  obtain ⟨S', k1, k2, k3⟩ := hT
  refine ⟨⟨S', v, k1, h2.keeps k2 (fun k hk e => (h3 k e).2 hk), fun k hk => ?_, h4, fun k hk => ⟨Nat.lt_of_lt_of_le (h5 k hk).1 k2.size, fun e => ?_, (h5 k hk).2.2⟩, h6.trans (k2.below h6.size (fun k hk e => by have := (h3 k e).1; omega))⟩, k2.size, fun k hk => k2.block k (h5 k hk).1 (h5 k hk).2.1⟩
  · rcases k3 k hk with e | e
    · exact h3 k e
    · exact ⟨Nat.le_trans h6.size e, fun e2 => by have := h2.own_lt e2; omega⟩
  · rcases k3 k e with e2 | e2
    · exact (h5 k hk).2.1 e2
    · have := (h5 k hk).1; omega
theorem PSt.refr {S : Nat → Prop} {v : Value} (K : CacheSpec At) (h1 : At W S B q ls t) (h3 : ∀ k, S k → w.heap.size ≤ k ∧ ¬ refS RB v k) (h4 : ∀ k, refS RB v k → w.heap.size ≤ k) (h5 : ∀ k, X k → k < W.heap.size ∧ ¬ S k ∧ ¬ refS RB v k) (h6 : Below w.heap.size w W)
    (hT : RefTo W W' RB q v ms') : PSt At w W' B RB q ls ms' t X ∧ Fr X W W' := by
  obtain ⟨v', k1, k2, k3⟩ := hT
  refine ⟨⟨S, v', K.keep h1 k2.size (fun k hk => k2.block k (K.lt h1 k hk) (h3 k hk).2), k1, fun k hk => ⟨(h3 k hk).1, fun e => ?_⟩, fun k hk => ?_, fun k hk => ⟨Nat.lt_of_lt_of_le (h5 k hk).1 k2.size, (h5 k hk).2.1, fun e => ?_⟩, h6.trans (k2.below h6.size (fun k hk e => by have := h4 k e; omega))⟩, k2.size, fun k hk => k2.block k (h5 k hk).1 (h5 k hk).2.2⟩
  · rcases k3 k e with e2 | e2
    · exact (h3 k hk).2 e2
    · have := K.lt h1 k hk; omega
  · rcases k3 k hk with e2 | e2
    · exact h4 k e2
    · exact Nat.le_trans h6.size e2
  · rcases k3 k e with e2 | e2
    · exact (h5 k hk).2.2 e2
    · have := (h5 k hk).1; omega
theorem PSt.get (K : CacheSpec At) (h : PSt At w W B RB q ls ms t X) (u b : Int) (hu : okI u) (hb : okI b) (ht : t ≤ 100000) : Calls Try.prog 12 #[.pointer (some ⟨B, 0, none⟩), .int .i64 u, .int .i64 b] W fun e W' => e = .returned (.tuple #[lineV (gotL ls u b), .bool (decide (findL ls u b < ls.length))]) ∧ PSt At w W' B RB q (getL ls u b) ms (t + 1) X ∧ Fr X W W' := by
  obtain ⟨S, v, h1, h2, h3, h4, h5, h6⟩ := h
  exact (K.get u b hu hb h1 ht).mono fun e W' ⟨a, k⟩ => ⟨a, PSt.prog K h2 h3 h4 h5 h6 k⟩
theorem PSt.put (K : CacheSpec At) (h : PSt At w W B RB q ls ms t X) (l : LineOf) (hl : l.ok) (ht : t ≤ 100000) : Calls Try.prog 15 #[.pointer (some ⟨B, 0, none⟩), lineV l] W fun e W' => e = .returned (errN (putN q ls l)) ∧ PSt At w W' B RB q (putS q ls l) ms (t + 1) X ∧ Fr X W W' := by
  obtain ⟨S, v, h1, h2, h3, h4, h5, h6⟩ := h
  exact (K.put l hl h1 ht).mono fun e W' ⟨a, k⟩ => ⟨a, PSt.prog K h2 h3 h4 h5 h6 k⟩
theorem PSt.clean (K : CacheSpec At) (h : PSt At w W B RB q ls ms t X) (ht : t ≤ 100000) : Calls Try.prog 18 #[.pointer (some ⟨B, 0, none⟩)] W fun e W' => e = .returned (.int .i64 (dirtyL ls).length) ∧ PSt At w W' B RB q (cleanedL ls) ms (t + 1) X ∧ Fr X W W' := by
  obtain ⟨S, v, h1, h2, h3, h4, h5, h6⟩ := h
  exact (K.clean h1 ht).mono fun e W' ⟨a, k⟩ => ⟨a, PSt.prog K h2 h3 h4 h5 h6 k⟩
theorem PSt.drop (K : CacheSpec At) (h : PSt At w W B RB q ls ms t X) (u : Int) (hu : okI u) (ht : t ≤ 100000) : Calls Try.prog 20 #[.pointer (some ⟨B, 0, none⟩), .int .i64 u] W fun e W' => e = .returned (.int .i64 ((ls.length - (dropL ls u).length : Nat) : Int)) ∧ PSt At w W' B RB q (dropL ls u) ms (t + 1) X ∧ Fr X W W' := by
  obtain ⟨S, v, h1, h2, h3, h4, h5, h6⟩ := h
  exact (K.drop u hu h1 ht).mono fun e W' ⟨a, k⟩ => ⟨a, PSt.prog K h2 h3 h4 h5 h6 k⟩
theorem PSt.lines (K : CacheSpec At) (h : PSt At w W B RB q ls ms t X) : Calls Try.prog 22 #[.pointer (some ⟨B, 0, none⟩)] W fun e W' => ∃ v, e = .returned v ∧ OwnL 42 131 lineC W' W.heap.size W'.heap.size v ls ∧ Below W.heap.size W W' := by
  obtain ⟨S, v, h1, h2, h3, h4, h5, h6⟩ := h
  exact K.lines h1
theorem PSt.cas (h : PSt At w W B RB q ls ms t X) : CaS At w W B q ls t := by
  obtain ⟨S, v, h1, h2, h3, h4, h5, h6⟩ := h
  exact ⟨S, h1, fun k hk => (h3 k hk).1, h6⟩
theorem PSt.rget (K : CacheSpec At) (h : PSt At w W B RB q ls ms t X) (u b : Int) : Calls Try.prog 13 #[.pointer (some ⟨RB, 0, none⟩), .int .i64 u, .int .i64 b] W fun e W' => e = .returned (.tuple #[lineV (gotL ms u b), .bool (decide (findL ms u b < ms.length))]) ∧ PSt At w W' B RB q ls (getL ms u b) t X ∧ Fr X W W' := by
  obtain ⟨S, v, h1, h2, h3, h4, h5, h6⟩ := h
  exact (refGet_any h2 u b).mono fun e W' ⟨a, k⟩ => ⟨a, PSt.refr K h1 h3 h4 h5 h6 k⟩
theorem PSt.rput (K : CacheSpec At) (h : PSt At w W B RB q ls ms t X) (l : LineOf) (hl : l.ok) (hle : ms.length ≤ 999) : Calls Try.prog 17 #[.pointer (some ⟨RB, 0, none⟩), lineV l] W fun e W' => e = .returned (.int .i64 (putN q ms l)) ∧ PSt At w W' B RB q ls (putS q ms l) t X ∧ Fr X W W' := by
  obtain ⟨S, v, h1, h2, h3, h4, h5, h6⟩ := h
  exact (refPut_any h2 l hl hle).mono fun e W' ⟨a, k⟩ => ⟨a, PSt.refr K h1 h3 h4 h5 h6 k⟩
theorem PSt.rclean (K : CacheSpec At) (h : PSt At w W B RB q ls ms t X) : Calls Try.prog 19 #[.pointer (some ⟨RB, 0, none⟩)] W fun e W' => e = .returned (.int .i64 (dirtyL ms).length) ∧ PSt At w W' B RB q ls (cleanedL ms) t X ∧ Fr X W W' := by
  obtain ⟨S, v, h1, h2, h3, h4, h5, h6⟩ := h
  exact (refClean_any h2).mono fun e W' ⟨a, k⟩ => ⟨a, PSt.refr K h1 h3 h4 h5 h6 k⟩
theorem PSt.rdrop (K : CacheSpec At) (h : PSt At w W B RB q ls ms t X) (u : Int) : Calls Try.prog 21 #[.pointer (some ⟨RB, 0, none⟩), .int .i64 u] W fun e W' => e = .returned (.int .i64 ((ms.length - (dropL ms u).length : Nat) : Int)) ∧ PSt At w W' B RB q ls (dropL ms u) t X ∧ Fr X W W' := by
  obtain ⟨S, v, h1, h2, h3, h4, h5, h6⟩ := h
  exact (refDrop_any h2 u).mono fun e W' ⟨a, k⟩ => ⟨a, PSt.refr K h1 h3 h4 h5 h6 k⟩
theorem PSt.rdirty (h : PSt At w W B RB q ls ms t X) : Calls Try.prog 23 #[.pointer (some ⟨RB, 0, none⟩)] W fun e W' => ∃ v, e = .returned v ∧ OwnL 42 131 lineC W' W.heap.size W'.heap.size v (dirtyL ms) ∧ Below W.heap.size W W' := by
  obtain ⟨S, v, h1, h2, h3, h4, h5, h6⟩ := h
  exact refDirty_any h2
/-- A new reference beside a new cache. -/
theorem PSt.start (K : CacheSpec At) (h : CaS At w W B q [] t) (hq : 0 ≤ q) (X : Nat → Prop) (hX : ∀ k, ¬ X k) : PSt At w (W.alloc (.cells #[.int .i64 q, .slice none 0 0] 36)) B W.heap.size q [] [] t X := by
  obtain ⟨S, h1, h2, h3⟩ := h
  have hb : Below W.heap.size W (W.alloc (.cells #[.int .i64 q, .slice none 0 0] 36)) := (Below.refl _ W).alloc (Nat.le_refl _) _
  refine ⟨S, .slice none 0 0, K.keep h1 hb.size (fun k hk => hb.block k (K.lt h1 k hk)), ⟨heap_alloc_new _ _, .inl ⟨rfl, rfl⟩, (fun e => by cases e), (fun l hl => by cases hl), Nat.zero_le _⟩, fun k hk => ⟨h2 k hk, fun e => ?_⟩, fun k hk => ?_, fun k hk => absurd hk (hX k), h3.trans (hb.mono h3.size)⟩
  · rcases e with e | e
    · have := K.lt h1 k hk; omega
    · cases e
  · rcases hk with e | e
    · rw [e]; exact h3.size
    · cases e
end
end Go.Proofs.Ytlaclakndleonaa

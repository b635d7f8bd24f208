/- The steps of so many words are those that the document says, as many as are asked for: the statement WrapSteps. No condition. -/
import Derived.Test.YtleoljdhaeoepaaWrAlive
namespace Go.Proofs.Ytleoljdhaeoepaa.wrapSteps
open Go.ChangeShapes Go.WideShapes Go.ChangeAt Go.RowKit Go.Shelf
attribute [local go_sem] Oper.semAt_some
set_option linter.unusedVariables false

theorem own : ownKnob Try.prog.godebug = none := by kernel_rfl
/-- A box of one value. -/
theorem one_set {w : World} {B : Nat} {u : Value} {t : TypeId} (h : w.heap[B]? = some (.cells #[u] t (0, 0))) (v : Value) : (w.setCell ⟨B, 0, none⟩ v).heap[B]? = some (.cells #[v] t (0, 0)) := cells_setCell h v
theorem one_other {w : World} {B C : Nat} {o : Obj} (h : w.heap[B]? = some o) (hne : B ≠ C) (v : Value) : (w.setCell ⟨C, 0, none⟩ v).heap[B]? = some o := (Below.heap_setCell w ⟨C, 0, none⟩ v B hne).trans h
/-- The law's boxes: n, how many are asked for, the answer, how many came, how many there are, and the iterator's n. -/
structure StQ (w : World) (KB CB SB : Nat) (z mo cnt k : Int) (V : World) : Prop where
  nb : V.heap[w.heap.size]? = some (.cells #[.int .i64 z] 3 (0, 0))
  mb : V.heap[w.heap.size + 1]? = some (.cells #[.int .i64 mo] 3 (0, 0))
  rb : V.heap[w.heap.size + 1 + 1]? = some (.cells #[.bool false] 4 (0, 0))
  kb : V.heap[KB]? = some (.cells #[.int .i64 k] 3 (0, 0))
  cb : V.heap[CB]? = some (.cells #[.int .i64 cnt] 3 (0, 0))
  sb : V.heap[SB]? = some (.cells #[.int .i64 z] 3 (0, 0))
  low : Below w.heap.size w V
  far : w.heap.size + 3 ≤ KB ∧ KB < CB ∧ CB < SB ∧ SB < V.heap.size
theorem StQ.below {w : World} {KB CB SB : Nat} {z mo cnt k : Int} {V V' : World} (h : StQ w KB CB SB z mo cnt k V) (hb : Below (SB + 1) V V') : StQ w KB CB SB z mo cnt k V' := by
  obtain ⟨f1, f2, f3, f4⟩ := h.far
  exact ⟨(hb.block _ (by omega)).trans h.nb, (hb.block _ (by omega)).trans h.mb, (hb.block _ (by omega)).trans h.rb, (hb.block _ (by omega)).trans h.kb, (hb.block _ (by omega)).trans h.cb, (hb.block _ (by omega)).trans h.sb, h.low.trans (hb.mono (by omega)), f1, f2, f3, Nat.lt_of_lt_of_le f4 hb.size⟩
theorem StQ.step {w : World} {KB CB SB : Nat} {z mo cnt k : Int} {V : World} (h : StQ w KB CB SB z mo cnt k V) (k' : Int) : StQ w KB CB SB z mo cnt k' (V.setCell ⟨KB, 0, none⟩ (.int .i64 k')) := by
  obtain ⟨f1, f2, f3, f4⟩ := h.far
  exact ⟨one_other h.nb (by omega) _, one_other h.mb (by omega) _, one_other h.rb (by omega) _, one_set h.kb _, one_other h.cb (by omega) _, one_other h.sb (by omega) _, h.low.setCell (by show w.heap.size ≤ KB; omega) _, f1, f2, f3, by simp [World.setCell]; exact f4⟩
/-- The second loop's boxes: the first one's, and how many came. -/
theorem heap_alloc_keep {w : World} {B : Nat} {o : Obj} (h : w.heap[B]? = some o) (o' : Obj) : (w.alloc o').heap[B]? = some o := (Below.heap_alloc _ _ _ (Array.getElem?_eq_some_iff.1 h).1).trans h
structure PA (w : World) (KB : Nat) (z y k : Int) (V : World) : Prop where
  nb : V.heap[w.heap.size]? = some (.cells #[.int .i64 z] 3 (0, 0))
  mb : V.heap[w.heap.size + 1]? = some (.cells #[.int .i64 y] 3 (0, 0))
  rb : V.heap[w.heap.size + 1 + 1]? = some (.cells #[.bool false] 4 (0, 0))
  kb : V.heap[KB]? = some (.cells #[.int .i64 k] 3 (0, 0))
  low : Below w.heap.size w V
  far : w.heap.size + 3 ≤ KB ∧ KB < V.heap.size
structure PB (w : World) (KB CB : Nat) (z y k c : Int) (V : World) : Prop where
  nb : V.heap[w.heap.size]? = some (.cells #[.int .i64 z] 3 (0, 0))
  mb : V.heap[w.heap.size + 1]? = some (.cells #[.int .i64 y] 3 (0, 0))
  rb : V.heap[w.heap.size + 1 + 1]? = some (.cells #[.bool false] 4 (0, 0))
  kb : V.heap[KB]? = some (.cells #[.int .i64 k] 3 (0, 0))
  cb : V.heap[CB]? = some (.cells #[.int .i64 c] 3 (0, 0))
  low : Below w.heap.size w V
  far : w.heap.size + 3 ≤ KB ∧ KB < CB ∧ CB < V.heap.size
theorem PA.set {w : World} {KB : Nat} {z y k : Int} {V : World} (h : PA w KB z y k V) (k' : Int) : PA w KB z y k' (V.setCell ⟨KB, 0, none⟩ (.int .i64 k')) := by
  obtain ⟨f1, f2⟩ := h.far
  exact ⟨one_other h.nb (by omega) _, one_other h.mb (by omega) _, one_other h.rb (by omega) _, one_set h.kb _, h.low.setCell (by show w.heap.size ≤ KB; omega) _, f1, by simp [World.setCell]; exact f2⟩
theorem PA.more {w : World} {KB : Nat} {z y k : Int} {V : World} (h : PA w KB z y k V) (c : Int) : PB w KB V.heap.size z y k c (V.alloc (.cells #[.int .i64 c] 3)) := by
  obtain ⟨f1, f2⟩ := h.far
  exact ⟨heap_alloc_keep h.nb _, heap_alloc_keep h.mb _, heap_alloc_keep h.rb _, heap_alloc_keep h.kb _, heap_alloc_new V _, h.low.alloc (by omega) _, f1, f2, by simp⟩
theorem PB.setC {w : World} {KB CB : Nat} {z y k c : Int} {V : World} (h : PB w KB CB z y k c V) (c' : Int) : PB w KB CB z y k c' (V.setCell ⟨CB, 0, none⟩ (.int .i64 c')) := by
  obtain ⟨f1, f2, f3⟩ := h.far
  exact ⟨one_other h.nb (by omega) _, one_other h.mb (by omega) _, one_other h.rb (by omega) _, one_other h.kb (by omega) _, one_set h.cb _, h.low.setCell (by show w.heap.size ≤ CB; omega) _, f1, f2, by simp [World.setCell]; exact f3⟩
theorem PB.setM {w : World} {KB CB : Nat} {z y k c : Int} {V : World} (h : PB w KB CB z y k c V) (y' : Int) : PB w KB CB z y' k c (V.setCell ⟨w.heap.size + 1, 0, none⟩ (.int .i64 y')) := by
  obtain ⟨f1, f2, f3⟩ := h.far
  exact ⟨one_other h.nb (by omega) _, one_set h.mb _, one_other h.rb (by omega) _, one_other h.kb (by omega) _, one_other h.cb (by omega) _, h.low.setCell (by show w.heap.size ≤ w.heap.size + 1; omega) _, f1, f2, by simp [World.setCell]; exact f3⟩
theorem PB.all {w : World} {KB CB : Nat} {z y k c : Int} {V : World} (h : PB w KB CB z y k c V) : StQ w KB CB V.heap.size z y c k (V.alloc (.cells #[.int .i64 z] 3)) := by
  obtain ⟨f1, f2, f3⟩ := h.far
  exact ⟨heap_alloc_keep h.nb _, heap_alloc_keep h.mb _, heap_alloc_keep h.rb _, heap_alloc_keep h.kb _, heap_alloc_keep h.cb _, heap_alloc_new V _, h.low.alloc (by omega) _, f1, f2, f3, by simp⟩

/-- Behind the first loop: its boxes, the loop's mark, and how many of two came. -/
structure PT (w : World) (KB CB D TB : Nat) (mo cnt k t : Int) (V : World) : Prop where
  mb : V.heap[w.heap.size + 1]? = some (.cells #[.int .i64 mo] 3 (0, 0))
  rb : V.heap[w.heap.size + 1 + 1]? = some (.cells #[.bool false] 4 (0, 0))
  kb : V.heap[KB]? = some (.cells #[.int .i64 k] 3 (0, 0))
  cb : V.heap[CB]? = some (.cells #[.int .i64 cnt] 3 (0, 0))
  tb : V.heap[TB]? = some (.cells #[.int .i64 t] 3 (0, 0))
  db : V.heap[D]? = some (.deferred (some []))
  low : Below w.heap.size w V
  far : w.heap.size + 3 ≤ KB ∧ KB < CB ∧ CB < D ∧ D < TB ∧ TB < V.heap.size
structure StT (w : World) (KB CB D TB SB : Nat) (mo cnt k t : Int) (V : World) : Prop where
  p : PT w KB CB D TB mo cnt k t V
  sb : V.heap[SB]? = some (.cells #[.int .i64 2] 3 (0, 0))
  far : TB < SB ∧ SB < V.heap.size
theorem StQ.two {w : World} {KB CB SB D : Nat} {z mo cnt k : Int} {V : World} (h : StQ w KB CB SB z mo cnt k V) (hd : V.heap[D]? = some (.deferred (some []))) (hD : SB + 1 ≤ D) : PT w KB CB D V.heap.size mo cnt k 0 (V.alloc (.cells #[.int .i64 0] 3)) := by
  obtain ⟨f1, f2, f3, f4⟩ := h.far
  have hl := (Array.getElem?_eq_some_iff.1 hd).1
  exact ⟨heap_alloc_keep h.mb _, heap_alloc_keep h.rb _, heap_alloc_keep h.kb _, heap_alloc_keep h.cb _, heap_alloc_new V _, heap_alloc_keep hd _, h.low.alloc (by omega) _, f1, f2, by omega, by omega, by simp⟩
theorem PT.set {w : World} {KB CB D TB : Nat} {mo cnt k t : Int} {V : World} (h : PT w KB CB D TB mo cnt k t V) (t' : Int) : PT w KB CB D TB mo cnt k t' (V.setCell ⟨TB, 0, none⟩ (.int .i64 t')) := by
  obtain ⟨f1, f2, f3, f4, f5⟩ := h.far
  exact ⟨one_other h.mb (by omega) _, one_other h.rb (by omega) _, one_other h.kb (by omega) _, one_other h.cb (by omega) _, one_set h.tb _, one_other h.db (by omega) _, h.low.setCell (by show w.heap.size ≤ TB; omega) _, f1, f2, f3, f4, by simp [World.setCell]; exact f5⟩
theorem PT.below {w : World} {KB CB D TB : Nat} {mo cnt k t : Int} {V V' : World} (h : PT w KB CB D TB mo cnt k t V) (hb : Below (TB + 1) V V') : PT w KB CB D TB mo cnt k t V' := by
  obtain ⟨f1, f2, f3, f4, f5⟩ := h.far
  exact ⟨(hb.block _ (by omega)).trans h.mb, (hb.block _ (by omega)).trans h.rb, (hb.block _ (by omega)).trans h.kb, (hb.block _ (by omega)).trans h.cb, (hb.block _ (by omega)).trans h.tb, (hb.block _ (by omega)).trans h.db, h.low.trans (hb.mono (by omega)), f1, f2, f3, f4, Nat.lt_of_lt_of_le f5 hb.size⟩
theorem PT.all {w : World} {KB CB D TB : Nat} {mo cnt k t : Int} {V : World} (h : PT w KB CB D TB mo cnt k t V) : StT w KB CB D TB V.heap.size mo cnt k t (V.alloc (.cells #[.int .i64 2] 3)) :=
  ⟨h.below ((Below.refl _ _).alloc (by have := h.far; omega) _), heap_alloc_new V _, h.far.2.2.2.2, by simp⟩
theorem StT.below {w : World} {KB CB D TB SB : Nat} {mo cnt k t : Int} {V V' : World} (h : StT w KB CB D TB SB mo cnt k t V) (hb : Below (SB + 1) V V') : StT w KB CB D TB SB mo cnt k t V' :=
  ⟨h.p.below (hb.mono (by have := h.far; omega)), (hb.block _ (by omega)).trans h.sb, h.far.1, Nat.lt_of_lt_of_le h.far.2 hb.size⟩
theorem StT.set {w : World} {KB CB D TB SB : Nat} {mo cnt k t : Int} {V : World} (h : StT w KB CB D TB SB mo cnt k t V) (t' : Int) : StT w KB CB D TB SB mo cnt k t' (V.setCell ⟨TB, 0, none⟩ (.int .i64 t')) :=
  ⟨h.p.set t', one_other h.sb (by have := h.far; omega) _, h.far.1, by simp [World.setCell]; exact h.far.2⟩
/-- A loop over an iterator that ends, whose body may leave it for the end of the block it stands in: both ways come to the same place. -/
theorem range_ends_brk {L : Nat} {P : Program} {F : Fence} {n : Nat} {g : Operand} {ps : Array Tmp} {assign body : Code} {Q : Exit → Act → World → Prop} {a : Act} {w : World} {X : Type}
    (hro : F.round = none) (h1 : 1 ≤ n) {gf : FuncId} {lb : Array Value} (hg : a.eval g = .func (.func gf) #[] lb) (hFg : F.fn gf) (eg : ∀ args v, (callFunc gf args).run P v = .ok (.enter gf args) v)
    (enc : X → Array Value) (Enc : Nat → Nat → World → X → Prop) (M : Nat) (R : World → Prop) (hps : ∀ x, (enc x).size = ps.size)
    (I : Nat → World → Prop) (J : World → Prop) (hR : ∀ i V, I i V → R V)
    (hI : ∀ i V V', I i V → Below w.heap.size V V' → I i V') (hJ : ∀ V V', J V → Below w.heap.size V V' → J V')
    (h0 : I 0 w) (hit : GivesTo F (n - 1) P gf lb enc Enc M R)
    (hround : ∀ l i x W, l = w.heap.size + 1 → i < M → w.heap.size + 2 ≤ W.heap.size → I i W → Enc (w.heap.size + 2) i W x →
      assign.wpIn (F.inRound l) (n - 1 - 1) P (Exit.then (fun a' W' => Aft w.heap.size W W' ∧ ∀ V, V.heap.size = W'.heap.size → (∀ k, k ≠ w.heap.size + 1 → V.heap[k]? = W'.heap[k]?) → Below w.heap.size W' V →
        body.wpIn (F.inRound l) (n - 1 - 1) P (roundUp w.heap.size I (fun c V => c = .exit L ∧ J V) i V) a' V) (fun _ _ _ => False)) { tmps := (ps.zip (enc x)).foldl (fun t (p, v) => t.setIfInBounds p v) a.tmps, defers := [] } W)
    (hend : ∀ D W, w.heap.size ≤ D → (I M W ∨ J W) → W.heap[D]? = some (.deferred (some [])) → Q .normal { a with defers := { target := .collected D, args := #[] } :: a.defers } W) :
    (Code.rangeFunc g ps assign body).wpIn F n P (Exit.inBlock L Q) a w := by
  refine range_ends hro h1 hg hFg eg enc Enc M R hps I (fun c V => c = .exit L ∧ J V) hR hI (fun c V V' h hb => ⟨h.1, hJ V V' h.2 hb⟩) h0 hit hround (fun D W hD h hd => ?_) ?_
  · exact hend D W hD (.inl h) hd
  · rintro D c W hD ⟨rfl, h⟩ hd
    refine wpIn_exit ?_
    show (if L = L then _ else _)
    rw [if_pos rfl]
    exact hend D W hD (.inr h) hd

set_option maxRecDepth 100000 in
set_option maxHeartbeats 8000000 in
theorem walk (z y : Int) (hz : (Lit.int .i64 z).wf = true) (hy : (Lit.int .i64 y).wf = true) (w : World) :
    Calls Try.prog 7 #[.int .i64 z, .int .i64 y] w fun e w' => e = .returned (.bool true) ∧ Below w.heap.size w w' := by
  obtain ⟨u, hu⟩ : ∃ u : Nat, IntKind.u64.wrap y = (u : Int) := by
    rw [IntKind.wrap_u64]; exact ⟨(y % 18446744073709551616).toNat, by omega⟩
  obtain ⟨mo, hmo, hmo1, hmo0⟩ : ∃ mo : Nat, mo = 1 + u % 500 ∧ mo ≤ 500 ∧ 1 ≤ mo := ⟨_, rfl, by omega, by omega⟩
  have q1 : IntKind.i64.wrap ((u : Int) % 500) = (u : Int) % 500 := IntWalk.i64_in _ (by omega)
  have q2 : IntKind.i64.wrap (1 + (u : Int) % 500) = 1 + (u : Int) % 500 := IntWalk.i64_in _ (by omega)
  have MO := Lib.hid (show 1 + (u : Int) % 500 = (mo : Int) by omega)
  clear hmo hz hy
  obtain ⟨q6, hq6⟩ : ∃ q6, IntKind.i64.wrap (6 * z) = q6 := ⟨_, rfl⟩
  have b0 := below_three w (.cells #[.int .i64 z] 3) (.cells #[.int .i64 y] 3) (.cells #[.bool false] 4)
  have hzf : z < 2 ∨ (2 ≤ z ∧ 64 < z) ∨ (2 ≤ z ∧ z ≤ 64) := by omega
  have AL := Lib.hid (fun W => alive_any W)
  refine (callsIn_wide (n := 3)).1 ?_
  refine callsIn_of_wp_marks Try.func7 rfl trivial ?_ rfl
  simp only [Try.ntmps7, List.size_toArray, List.length_cons, List.length_nil, Nat.reduceAdd, Nat.reduceSub, Array.replicate_succ, Array.replicate_zero, List.push_toArray, List.append_toArray, List.nil_append, List.cons_append]
  refine wpIn_wide.2 ?_
  have n0 : (((w.alloc (.cells #[.int .i64 z] 3)).alloc (.cells #[.int .i64 y] 3)).alloc (.cells #[.bool false] 4)).heap[w.heap.size]? = some (.cells #[.int .i64 z] 3 (0, 0)) :=
    heap_alloc_keep (heap_alloc_keep (heap_alloc_new w _) _) _
  have m0 : (((w.alloc (.cells #[.int .i64 z] 3)).alloc (.cells #[.int .i64 y] 3)).alloc (.cells #[.bool false] 4)).heap[w.heap.size + 1]? = some (.cells #[.int .i64 y] 3 (0, 0)) := by
    have h := heap_alloc_new (w.alloc (.cells #[.int .i64 z] 3)) (.cells #[.int .i64 y] 3)
    rw [World.size_alloc] at h
    exact heap_alloc_keep h _
  have r0 : (((w.alloc (.cells #[.int .i64 z] 3)).alloc (.cells #[.int .i64 y] 3)).alloc (.cells #[.bool false] 4)).heap[w.heap.size + 1 + 1]? = some (.cells #[.bool false] 4 (0, 0)) := heap_alloc_third w _ _ _
  have s0 : (((w.alloc (.cells #[.int .i64 z] 3)).alloc (.cells #[.int .i64 y] 3)).alloc (.cells #[.bool false] 4)).heap.size = w.heap.size + 3 := by simp
  go_wp2_with fail
  change Calls _ _ _ (((w.alloc (.cells #[.int .i64 z] 3)).alloc (.cells #[.int .i64 y] 3)).alloc (.cells #[.bool false] 4)) _
  generalize ((w.alloc (.cells #[.int .i64 z] 3)).alloc (.cells #[.int .i64 y] 3)).alloc (.cells #[.bool false] 4) = w0 at *
  refine (AL.out w0).mono ?_
  rintro e w1 ⟨rfl, hb1⟩
  have n1 := (hb1.block _ (by omega)).trans n0
  have m1 := (hb1.block _ (by omega)).trans m0
  have r1 := (hb1.block _ (by omega)).trans r0
  have l1 := b0.trans (hb1.mono (by omega))
  have s1 : w.heap.size + 3 ≤ w1.heap.size := by have := hb1.size; omega
  clear hb1 n0 m0 r0 b0 s0 AL
  have N1 := Lib.hid n1; have M1 := Lib.hid m1; have R1 := Lib.hid r1; have L1 := Lib.hid l1; have S1 := Lib.hid s1
  clear n1 m1 r1 l1
  rcases hzf with hz2 | ⟨hz2, hz64⟩ | ⟨hz2, hz64⟩
  case' inl =>
    have d1 : decide (z < 2) = true := by simp; omega
    obtain ⟨cnt, hcn⟩ : ∃ cnt : Nat, cnt = 0 := ⟨_, rfl⟩
    obtain ⟨m, hm⟩ : ∃ m : Nat, m = 1 := ⟨_, rfl⟩
    have HG := Lib.hid (show ∀ l Bn, GivesTo Fence.wide l Try.prog 28 #[.pointer (some ⟨Bn, 0, none⟩)] (stE m) (fun _ i _ x => x = i) cnt (StR Bn z) by subst hcn hm; exact fun l Bn => steps_none l Bn z (by omega))
    have HC := Lib.hid (show cnt = 0 ∨ (z = m ∧ 2 ≤ m ∧ m ≤ 64 ∧ cnt = 6 * m) from .inl hcn)
    have HC0 := Lib.hid (show (0 : Int) = (cnt : Int) by rw [hcn]; rfl)
    clear hm hcn
    go_wp2_with (first
      | (change wpList _ _ _ _ _ (w1.alloc (.cells #[.int .i64 0] 3))
         have p2 : PA w w1.heap.size z y 0 (w1.alloc (.cells #[.int .i64 0] 3)) := ⟨heap_alloc_keep N1.out _, heap_alloc_keep M1.out _, heap_alloc_keep R1.out _, heap_alloc_new w1 _, L1.out.alloc (by have := S1.out; omega) _, S1.out, by simp⟩
         generalize w1.alloc (.cells #[.int .i64 0] 3) = w2 at *
         have c2 := cell_of_one p2.kb
         have f2 := free_of_one p2.kb
         have P2 := Lib.hid p2
         clear p2 N1 M1 R1 L1)
      | (change wpList _ _ _ _ _ (w2.setCell ⟨w1.heap.size, 0, none⟩ (.int .i64 0))
         have p3 := P2.out.set 0
         generalize w2.setCell ⟨w1.heap.size, 0, none⟩ (.int .i64 0) = w3 at *
         have c3 := cell_of_one p3.nb
         have P3 := Lib.hid p3
         clear p3 P2 c2 f2)
      | (change wpList _ _ _ _ _ (w3.alloc (.cells #[.int .i64 0] 3))
         have p4 := P3.out.more 0
         generalize w3.alloc (.cells #[.int .i64 0] 3) = w4 at *
         have c4 := cell_of_one p4.cb
         have f4 := free_of_one p4.cb
         have P4 := Lib.hid p4
         clear p4 P3 c3)
      | (change wpList _ _ _ _ _ (w4.setCell ⟨w3.heap.size, 0, none⟩ (.int .i64 q6))
         have p5 := P4.out.setC q6
         generalize w4.setCell ⟨w3.heap.size, 0, none⟩ (.int .i64 q6) = w5 at *
         have c5 := cell_of_one p5.nb
         have d5 := cell_of_one p5.cb
         have f5 := free_of_one p5.cb
         have e5 := cell_of_one p5.mb
         have g5 := free_of_one p5.mb
         have P5 := Lib.hid p5
         clear p5 P4 c4 f4)
      | (change wpList _ _ _ _ _ (w5.setCell ⟨w3.heap.size, 0, none⟩ (.int .i64 0))
         have p6 := P5.out.setC 0
         generalize w5.setCell ⟨w3.heap.size, 0, none⟩ (.int .i64 0) = w6 at *
         have e6 := cell_of_one p6.mb
         have g6 := free_of_one p6.mb
         have P6 := Lib.hid p6
         clear p6 P5 c5 d5 f5 e5 g5)
      | (change wpList _ _ _ _ _ (w6.setCell ⟨w.heap.size + 1, 0, none⟩ (.int .i64 (1 + (u : Int) % 500)))
         have p7 := P6.out.setM (1 + (u : Int) % 500)
         generalize w6.setCell ⟨w.heap.size + 1, 0, none⟩ (.int .i64 (1 + (u : Int) % 500)) = w7 at *
         rw [MO.out] at p7
         have c7 := cell_of_one p7.nb
         have P7 := Lib.hid p7
         clear p7 P6 e6 g6)
      | (go_at_call 19; refine (Steps_any _ _).mono ?_; rintro e w8 ⟨rfl, hw8⟩
         have HI0 := Lib.hid (show StQ w w1.heap.size w3.heap.size w7.heap.size z mo (cnt : Int) ((0 : Nat) : Int) w8 by
           rw [← hw8, ← HC0.out]; exact P7.out.all)
         have HS8 := Lib.hid (show w8.heap.size = w7.heap.size + 1 by rw [← hw8]; simp)
         clear hw8 P7 c7))
  case' inr.inl =>
    have d1 : decide (z < 2) = false := by simp; omega
    have d2 : decide (64 < z) = true := by simp; omega
    obtain ⟨cnt, hcn⟩ : ∃ cnt : Nat, cnt = 0 := ⟨_, rfl⟩
    obtain ⟨m, hm⟩ : ∃ m : Nat, m = 1 := ⟨_, rfl⟩
    have HG := Lib.hid (show ∀ l Bn, GivesTo Fence.wide l Try.prog 28 #[.pointer (some ⟨Bn, 0, none⟩)] (stE m) (fun _ i _ x => x = i) cnt (StR Bn z) by subst hcn hm; exact fun l Bn => steps_none l Bn z (by omega))
    have HC := Lib.hid (show cnt = 0 ∨ (z = m ∧ 2 ≤ m ∧ m ≤ 64 ∧ cnt = 6 * m) from .inl hcn)
    have HC0 := Lib.hid (show (0 : Int) = (cnt : Int) by rw [hcn]; rfl)
    clear hm hcn
    go_wp2_with (first
      | (change wpList _ _ _ _ _ (w1.alloc (.cells #[.int .i64 0] 3))
         have p2 : PA w w1.heap.size z y 0 (w1.alloc (.cells #[.int .i64 0] 3)) := ⟨heap_alloc_keep N1.out _, heap_alloc_keep M1.out _, heap_alloc_keep R1.out _, heap_alloc_new w1 _, L1.out.alloc (by have := S1.out; omega) _, S1.out, by simp⟩
         generalize w1.alloc (.cells #[.int .i64 0] 3) = w2 at *
         have c2 := cell_of_one p2.kb
         have f2 := free_of_one p2.kb
         have P2 := Lib.hid p2
         clear p2 N1 M1 R1 L1)
      | (change wpList _ _ _ _ _ (w2.setCell ⟨w1.heap.size, 0, none⟩ (.int .i64 0))
         have p3 := P2.out.set 0
         generalize w2.setCell ⟨w1.heap.size, 0, none⟩ (.int .i64 0) = w3 at *
         have c3 := cell_of_one p3.nb
         have P3 := Lib.hid p3
         clear p3 P2 c2 f2)
      | (change wpList _ _ _ _ _ (w3.alloc (.cells #[.int .i64 0] 3))
         have p4 := P3.out.more 0
         generalize w3.alloc (.cells #[.int .i64 0] 3) = w4 at *
         have c4 := cell_of_one p4.cb
         have f4 := free_of_one p4.cb
         have P4 := Lib.hid p4
         clear p4 P3 c3)
      | (change wpList _ _ _ _ _ (w4.setCell ⟨w3.heap.size, 0, none⟩ (.int .i64 q6))
         have p5 := P4.out.setC q6
         generalize w4.setCell ⟨w3.heap.size, 0, none⟩ (.int .i64 q6) = w5 at *
         have c5 := cell_of_one p5.nb
         have d5 := cell_of_one p5.cb
         have f5 := free_of_one p5.cb
         have e5 := cell_of_one p5.mb
         have g5 := free_of_one p5.mb
         have P5 := Lib.hid p5
         clear p5 P4 c4 f4)
      | (change wpList _ _ _ _ _ (w5.setCell ⟨w3.heap.size, 0, none⟩ (.int .i64 0))
         have p6 := P5.out.setC 0
         generalize w5.setCell ⟨w3.heap.size, 0, none⟩ (.int .i64 0) = w6 at *
         have e6 := cell_of_one p6.mb
         have g6 := free_of_one p6.mb
         have P6 := Lib.hid p6
         clear p6 P5 c5 d5 f5 e5 g5)
      | (change wpList _ _ _ _ _ (w6.setCell ⟨w.heap.size + 1, 0, none⟩ (.int .i64 (1 + (u : Int) % 500)))
         have p7 := P6.out.setM (1 + (u : Int) % 500)
         generalize w6.setCell ⟨w.heap.size + 1, 0, none⟩ (.int .i64 (1 + (u : Int) % 500)) = w7 at *
         rw [MO.out] at p7
         have c7 := cell_of_one p7.nb
         have P7 := Lib.hid p7
         clear p7 P6 e6 g6)
      | (go_at_call 19; refine (Steps_any _ _).mono ?_; rintro e w8 ⟨rfl, hw8⟩
         have HI0 := Lib.hid (show StQ w w1.heap.size w3.heap.size w7.heap.size z mo (cnt : Int) ((0 : Nat) : Int) w8 by
           rw [← hw8, ← HC0.out]; exact P7.out.all)
         have HS8 := Lib.hid (show w8.heap.size = w7.heap.size + 1 by rw [← hw8]; simp)
         clear hw8 P7 c7))
  case' inr.inr =>
    have d1 : decide (z < 2) = false := by simp; omega
    have d2 : decide (64 < z) = false := by simp; omega
    obtain ⟨m, hm⟩ : ∃ m : Nat, z = m := ⟨z.toNat, by omega⟩
    obtain ⟨cnt, hcn⟩ : ∃ cnt : Nat, cnt = 6 * m := ⟨_, rfl⟩
    have HG := Lib.hid (show ∀ l Bn, GivesTo Fence.wide l Try.prog 28 #[.pointer (some ⟨Bn, 0, none⟩)] (stE m) (fun _ i _ x => x = i) cnt (StR Bn z) by subst hcn hm; exact fun l Bn => steps_gives l Bn m (by omega) (by omega))
    have HC := Lib.hid (show cnt = 0 ∨ (z = m ∧ 2 ≤ m ∧ m ≤ 64 ∧ cnt = 6 * m) from .inr ⟨hm, by omega, by omega, hcn⟩)
    have HC0 := Lib.hid (show q6 = (cnt : Int) by rw [← hq6, IntWalk.i64_in _ (by omega), hm, hcn]; omega)
    clear hm hcn
    go_wp2_with (first
      | (change wpList _ _ _ _ _ (w1.alloc (.cells #[.int .i64 0] 3))
         have p2 : PA w w1.heap.size z y 0 (w1.alloc (.cells #[.int .i64 0] 3)) := ⟨heap_alloc_keep N1.out _, heap_alloc_keep M1.out _, heap_alloc_keep R1.out _, heap_alloc_new w1 _, L1.out.alloc (by have := S1.out; omega) _, S1.out, by simp⟩
         generalize w1.alloc (.cells #[.int .i64 0] 3) = w2 at *
         have c2 := cell_of_one p2.kb
         have f2 := free_of_one p2.kb
         have P2 := Lib.hid p2
         clear p2 N1 M1 R1 L1)
      | (change wpList _ _ _ _ _ (w2.setCell ⟨w1.heap.size, 0, none⟩ (.int .i64 0))
         have p3 := P2.out.set 0
         generalize w2.setCell ⟨w1.heap.size, 0, none⟩ (.int .i64 0) = w3 at *
         have c3 := cell_of_one p3.nb
         have P3 := Lib.hid p3
         clear p3 P2 c2 f2)
      | (change wpList _ _ _ _ _ (w3.alloc (.cells #[.int .i64 0] 3))
         have p4 := P3.out.more 0
         generalize w3.alloc (.cells #[.int .i64 0] 3) = w4 at *
         have c4 := cell_of_one p4.cb
         have f4 := free_of_one p4.cb
         have P4 := Lib.hid p4
         clear p4 P3 c3)
      | (change wpList _ _ _ _ _ (w4.setCell ⟨w3.heap.size, 0, none⟩ (.int .i64 q6))
         have p5 := P4.out.setC q6
         generalize w4.setCell ⟨w3.heap.size, 0, none⟩ (.int .i64 q6) = w5 at *
         have c5 := cell_of_one p5.nb
         have d5 := cell_of_one p5.cb
         have f5 := free_of_one p5.cb
         have e5 := cell_of_one p5.mb
         have g5 := free_of_one p5.mb
         have P5 := Lib.hid p5
         clear p5 P4 c4 f4)
      | (change wpList _ _ _ _ _ (w5.setCell ⟨w.heap.size + 1, 0, none⟩ (.int .i64 (1 + (u : Int) % 500)))
         have p7 := P5.out.setM (1 + (u : Int) % 500)
         generalize w5.setCell ⟨w.heap.size + 1, 0, none⟩ (.int .i64 (1 + (u : Int) % 500)) = w7 at *
         rw [MO.out] at p7
         have c7 := cell_of_one p7.nb
         have P7 := Lib.hid p7
         clear p7 P5 c5 d5 f5 e5 g5)
      | (go_at_call 19; refine (Steps_any _ _).mono ?_; rintro e w8 ⟨rfl, hw8⟩
         have HI0 := Lib.hid (show StQ w w1.heap.size w3.heap.size w7.heap.size z mo (cnt : Int) ((0 : Nat) : Int) w8 by
           rw [← hw8, ← HC0.out]; exact P7.out.all)
         have HS8 := Lib.hid (show w8.heap.size = w7.heap.size + 1 by rw [← hw8]; simp)
         clear hw8 P7 c7))
  all_goals
    clear HC0 hq6 q1 q2 hu MO hz2
    try clear hz64
    try clear d2
    clear d1
    generalize w1.heap.size = KB at *
    generalize w3.heap.size = CB at *
    generalize w7.heap.size = SB at *
    have s8 := HS8.out
    clear HS8 S1 s1
    refine (wpIn_wide (n := 3)).1 ?_
    refine range_ends_brk rfl (by omega) (gf := 28) (lb := #[.pointer (some ⟨SB, 0, none⟩)]) rfl trivial (enters_of Try.func28 (by kernel_rfl) rfl)
      (stE m) (fun _ i _ x => x = i) cnt (StR SB z) (fun _ => rfl)
      (fun i V => (i < mo ∧ i ≤ cnt) ∧ StQ w KB CB SB z mo cnt (i : Nat) V) (fun V => mo ≤ cnt ∧ StQ w KB CB SB z mo cnt (mo : Nat) V) ?rd ?st ?stx ⟨⟨hmo0, Nat.zero_le _⟩, HI0.out⟩ (HG.out _ SB) ?round ?done
    case rd => exact fun i V h => cell_of_one h.2.sb
    case st => exact fun i V V' h hb => ⟨h.1, h.2.below (by rw [s8] at hb; exact hb)⟩
    case stx => exact fun V V' h hb => ⟨h.1, h.2.below (by rw [s8] at hb; exact hb)⟩
    case round =>
      rintro l i0 i U hl hi hus ⟨⟨hlt, _⟩, hI⟩ rfl
      rw [s8] at hus hl
      rcases HC.out with h0 | ⟨rfl, hm2, hm64, hc6⟩
      · omega
      have d1 : decide ((cnt : Int) ≤ (i : Int)) = false := by simp; omega
      clear hc6
      have HI := Lib.hid hI
      clear hI HI0
      have hc : i % m < m := Nat.mod_lt _ (by omega)
      obtain ⟨c, hcc⟩ : ∃ c, i % m = c := ⟨_, rfl⟩
      have hE : stE m i = #[.int .i64 ((i : Int) + 1), .int .i64 ((c : Int) + 1)] := by unfold stE; rw [hcc]
      rw [hE]
      gi_wp2
      refine ⟨Aft.refl _ _, fun V hVs hVk hVb => ?_⟩
      try rw [s8] at hVb
      have qv := HI.out.below hVb
      clear hVs hVk hVb HI hE
      have c1 := cell_of_one qv.kb
      have f1 := free_of_one qv.kb
      have c2 := cell_of_one qv.cb
      have c3 := cell_of_one qv.nb
      have q1 : IntKind.i64.wrap ((i : Int) + 1) = (i : Int) + 1 := IntWalk.i64_in _ (by omega)
      have q3 : (i : Int) % (m : Int) = (c : Int) := by rw [← hcc]; rfl
      have q4 : IntKind.i64.wrap ((c : Int) + 1) = (c : Int) + 1 := IntWalk.i64_in _ (by omega)
      have qw := qv.step ((i : Int) + 1)
      have c5 := cell_of_one qw.kb
      have c6 := cell_of_one qw.mb
      have hA : Aft (SB + 1) V (V.setCell ⟨KB, 0, none⟩ (.int .i64 ((i : Int) + 1))) := Aft.setCell (Aft.refl _ _) (by show KB < SB + 1; have := qv.far; omega) _
      have HA := Lib.hid hA
      have QW := Lib.hid qw
      clear qv hcc qw hA
      gi_wp2
      · have hcd : ((i : Int) + 1 == (mo : Int)) = true := by assumption
        have hqN : i + 1 = mo := by simp at hcd; omega
        refine ⟨HA.out, rfl, by omega, ?_⟩
        have := QW.out
        rw [show (i : Int) + 1 = ((mo : Nat) : Int) by omega] at this
        rw [show (i : Int) + 1 = ((mo : Nat) : Int) by omega]
        exact this
      · have hcd : ((i : Int) + 1 == (mo : Int)) = false := by assumption
        have hqN : i + 1 ≠ mo := fun h => by
          have hcd2 : ((i : Int) + 1 == (mo : Int)) = true := by simp; omega
          rw [hcd] at hcd2; cases hcd2
        exact ⟨HA.out, ⟨by omega, by omega⟩, QW.out⟩
    case done =>
      intro D U hD hend hd
      obtain ⟨k, hk, hI⟩ : ∃ k : Nat, k = min cnt mo ∧ StQ w KB CB SB z mo cnt k U := by
        rcases hend with ⟨⟨hlt, _⟩, hI⟩ | ⟨hle, hI⟩
        · exact ⟨cnt, by omega, hI⟩
        · exact ⟨mo, by omega, hI⟩
      clear hend HC HG HI0
      rw [s8] at hD
      have p2 := hI.two hd hD
      have HP2 := Lib.hid p2
      clear p2 hI hd hD s8
      have S2 := Lib.hid (fun V => Steps_any 2 V)
      go_wp2_with (first
      | (change wpList _ _ _ _ _ (U.alloc (.cells #[.int .i64 0] 3))
         have p2 := HP2.out
         generalize U.alloc (.cells #[.int .i64 0] 3) = U2 at *
         have c2 := cell_of_one p2.tb
         have f2 := free_of_one p2.tb
         have P2 := Lib.hid p2
         clear p2 HP2)
      | (change wpList _ _ _ _ _ (U2.setCell ⟨U.heap.size, 0, none⟩ (.int .i64 0))
         have p3 := P2.out.set 0
         generalize U2.setCell ⟨U.heap.size, 0, none⟩ (.int .i64 0) = U3 at *
         generalize U.heap.size = TB at *
         have P3 := Lib.hid p3
         clear p3 P2 c2 f2)
      | (go_at_call 19; refine (S2.out _).mono ?_; rintro e U4 ⟨rfl, hU4⟩
         have HT0 := Lib.hid (show StT w KB CB D TB U3.heap.size mo cnt k 0 U4 by rw [← hU4]; exact P3.out.all)
         have HS4 := Lib.hid (show U4.heap.size = U3.heap.size + 1 by rw [← hU4]; simp)
         generalize U3.heap.size = SC at *
         clear hU4 P3 S2))
      have s4 := HS4.out
      clear HS4
      have f4 := HT0.out.far
      have g4 := HT0.out.p.far
      have HF := Lib.hid f4; have HGF := Lib.hid g4
      have HK := Lib.hid hk
      clear hk f4 g4
      refine (wpIn_wide (n := 3)).1 ?_
      refine range_ends_brk rfl (by omega) (gf := 28) (lb := #[.pointer (some ⟨SC, 0, none⟩)]) rfl trivial (enters_of Try.func28 (by kernel_rfl) rfl)
        (stE 2) (fun _ i _ x => x = i) 12 (StR SC 2) (fun _ => rfl)
        (fun i V => i ≤ 12 ∧ StT w KB CB D TB SC mo cnt k (i : Nat) V) (fun _ => False) ?rd2 ?st2 ?stx2 ⟨by omega, HT0.out⟩ (steps_gives _ SC 2 (by omega) (by omega)) ?round2 ?done2
      case rd2 => exact fun i V h => cell_of_one h.2.sb
      case st2 => exact fun i V V' h hb => ⟨h.1, h.2.below (by rw [s4] at hb; exact hb)⟩
      case stx2 => exact fun V V' h hb => h.elim
      case round2 =>
        rintro l i0 i W hl hi hus ⟨_, hI⟩ rfl
        rw [s4] at hus hl
        have HI := Lib.hid hI
        clear hI HT0
        obtain ⟨E, hE⟩ : ∃ E, stE 2 i = #[.int .i64 ((i : Int) + 1), .int .i64 E] := ⟨_, rfl⟩
        rw [hE]
        gi_wp2
        refine ⟨Aft.refl _ _, fun V hVs hVk hVb => ?_⟩
        try rw [s4] at hVb
        have qv := HI.out.below hVb
        clear hVs hVk hVb HI hE
        have c1 := cell_of_one qv.p.tb
        have f1 := free_of_one qv.p.tb
        have q1 : IntKind.i64.wrap ((i : Int) + 1) = (i : Int) + 1 := IntWalk.i64_in _ (by omega)
        have d1 : decide ((12 : Int) < (i : Int) + 1) = false := by simp; omega
        have d2 : decide (12 < i + 1) = false := by simp; omega
        have qw := qv.set ((i : Int) + 1)
        have c5 := cell_of_one qw.p.tb
        have HA := Lib.hid (show Aft U4.heap.size V (V.setCell ⟨TB, 0, none⟩ (.int .i64 ((i : Int) + 1))) from Aft.setCell (Aft.refl _ _) (by show TB < U4.heap.size; have := HF.out; omega) _)
        have QW := Lib.hid qw
        clear qv qw
        gi_wp2
        exact ⟨HA.out, by omega, QW.out⟩
      case done2 =>
        rintro D2 V hD2 (⟨_, hI⟩ | h) hd
        · rw [s4] at hD2
          have c1 := cell_of_one hI.p.tb
          have c2 := cell_of_one hI.p.kb
          have c3 := cell_of_one hI.p.cb
          have c4 := cell_of_one hI.p.mb
          have c5 := cell_of_one hI.p.rb
          have f5 := free_of_one hI.p.rb
          have m1 : min (cnt : Int) (mo : Int) = (k : Int) := by rw [HK.out]; omega
          have HI := Lib.hid hI; have HD := Lib.hid hd
          clear hI hd HT0 s4
          go_wp2
          all_goals
            have hfin : Below w.heap.size w (V.setCell ⟨w.heap.size + 1 + 1, 0, none⟩ (.bool true)) := HI.out.p.low.setCell (by show w.heap.size ≤ w.heap.size + 1 + 1; omega) _
            have hr : (V.setCell ⟨w.heap.size + 1 + 1, 0, none⟩ (.bool true)).heap[w.heap.size + 1 + 1]? = some (.cells #[.bool true] 4 (0, 0)) := one_set HI.out.p.rb _
            have hd2 : (V.setCell ⟨w.heap.size + 1 + 1, 0, none⟩ (.bool true)).heap[D2]? = some (.deferred (some [])) := one_other HD.out (by have := HGF.out; have := HF.out; omega) _
            have hd1 : (V.setCell ⟨w.heap.size + 1 + 1, 0, none⟩ (.bool true)).heap[D]? = some (.deferred (some [])) := one_other HI.out.p.db (by have := HGF.out; omega) _
            have hne : D ≠ D2 := by have := HGF.out; have := HF.out; omega
            have hdw : w.heap.size + 1 + 1 < D := by have := HGF.out; omega
            have hdw2 : w.heap.size + 1 + 1 < D2 := by have := HGF.out; have := HF.out; omega
            have hk1 := HK.out
            first
              | rw [show ((k : Int) == (cnt : Int)) = true by simp; omega]
              | rw [show ((k : Int) == (mo : Int)) = true by simp; omega]
            generalize V.setCell ⟨w.heap.size + 1 + 1, 0, none⟩ (.bool true) = Z at *
            refine ⟨by simp, .inl ⟨_, _, rfl, run_takeDeferred hd2, ?_⟩⟩
            have hd3 : (Z.putObj D2 (.deferred none)).heap[D]? = some (.deferred (some [])) := (World.putObj_heap_other (by omega)).trans hd1
            refine ⟨by simp, .inl ⟨_, _, rfl, run_takeDeferred hd3, ?_⟩⟩
            have r1 := cells_turn (o' := .deferred none) hr hd2 rfl
            have r2 := cells_turn (o' := .deferred none) r1 hd3 rfl
            have hc := cell_of_one r2
            refine ⟨.bool true, ?_, rfl, below_turn _ (below_turn _ hfin (by omega)) (by omega)⟩
            simp [results, Try.f7, go_sem, hc]
        · exact h.elim

set_option maxRecDepth 100000 in
theorem lifted (os : Os) (started : os.Started) (H : Type) (enc : TypeId × Value → H) :
    ReturnsInHanded {} Try.checked os 7 .any (Rows.wrapStepsSpec.pre6 enc Try.prog Try.f7 Rows.wrapStepsRow.domain false) (Rows.wrapStepsSpec.post enc Try.prog Try.f7 false true false false) := by
  refine returnsInHanded_of_change (C := Try.checked) own started (by kernel_rfl) Try.func7
    (ChangeSpec.witness6 (enc := enc) (C := Try.checked) false ⟨#[], #[.int .i64 0, .int .i64 0], []⟩ 8 (by kernel_rfl) (by kernel_rfl) (by kernel_rfl) (by kernel_rfl)) ?_
  intro W base args ds gs before hval0 hW hcnd _
  have hval : ∀ (j : Nat) t v, Try.f7.params[j]? = some t → args[j]? = some v → Value.okWide Try.prog W .any base t v := hval0
  have hW' := hW
  obtain ⟨p, q, hA0, hV, rfl, hfz, hnd⟩ := hW
  have hA : DataW.TrodAll enc Try.prog W 0 (fun _ => true) true Try.f7.params.toList args.toList ds p := hA0
  rw [Try.params7] at hA hval
  obtain ⟨v0, vs0, d0, ds0, p0, q0, hargs, rfl, rfl, h0, r0⟩ := trodAll_cons hA
  obtain ⟨v1, vs1, d1, ds1, p1, q1, rfl, rfl, rfl, h1, r1⟩ := trodAll_cons r0
  obtain ⟨rfl, rfl, rfl⟩ := trodAll_nil r1
  obtain rfl : args = #[v0, v1] := by cases args; simp_all
  obtain ⟨rfl, rfl⟩ := trodVars_none hV
  obtain ⟨a0, rfl, rfl, rfl, w0⟩ := open_int Try.underlying3 (hval 0 3 v0 rfl rfl) h0
  obtain ⟨a1, rfl, rfl, rfl, w1⟩ := open_int Try.underlying3 (hval 1 3 v1 rfl rfl) h1
  clear hA0 hval0
  refine (walk a0 a1 w0 w1 W).mono fun e W' ⟨he, bel⟩ => ?_
  subst he
  exact ⟨_, rfl, _, _, _, [], _, [], hW', trodAll_mk1 (shut_bool Try.underlying4 _), (trodAll_cons_mk (shut_int Try.underlying3 w0) (trodAll_cons_mk (shut_int Try.underlying3 w1) trodAll_mk0)), rfl, bel.frame _, fun h => by cases h⟩

theorem over : Rows.wrapStepsRow.holds Try.pinned (OpenSpec.ofChange Rows.wrapStepsSpec) :=
  OpenClaim.holds_of_wide 7 Try.f7 rfl rfl rfl rfl rfl rfl rfl ⟨rfl, rfl, rfl, rfl, rfl⟩ rfl rfl rfl rfl rfl (by kernel_rfl) Try.func7 (by kernel_rfl)
    (of_decide_eq_true (by kernel_rfl)) (by unfold Func.isWrapper; first | (rw [if_pos (by decide +kernel)]; kernel_rfl) | (rw [if_neg (by decide +kernel)]; exact ⟨rfl, rfl⟩))
    (fun os started H enc _ => lifted os started H enc)

theorem proved : Rows.WrapStepsSaid := over
end Go.Proofs.Ytleoljdhaeoepaa.wrapSteps

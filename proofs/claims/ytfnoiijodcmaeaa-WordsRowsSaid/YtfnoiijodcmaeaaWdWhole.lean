/- The contract of package words' Whole: whether bytes are rows alone. Condition: no more than 2^47 - 4096 bytes. -/
import Derived.Test.YtfnoiijodcmaeaaWdSpan
namespace Go.Proofs.Ytfnoiijodcmaeaa
open Go.ChangeShapes Go.WideShapes Go.ChangeAt Go.RowKit Go.Shelf
attribute [local go_sem] Oper.semAt_some
set_option linter.unusedVariables false

theorem cells_setCell {w : World} {B i : Nat} {cs : Array Value} {t : TypeId} {fr : Nat × Nat} (h : w.heap[B]? = some (.cells cs t fr)) (v : Value) : (w.setCell ⟨B, i, none⟩ v).heap[B]? = some (.cells (cs.setIfInBounds i v) t fr) := by
  have hlt := lt_of_block h
  have h' : w.heap[B] = .cells cs t fr := by simpa [Array.getElem?_eq_getElem hlt] using h
  show (w.heap.modify B _)[B]? = _
  rw [Array.getElem?_eq_getElem (by simpa using hlt), Array.getElem_modify_self, h']
  simp
/-- A box of one value. -/
theorem one_set {w : World} {B : Nat} {u : Value} {t : TypeId} (h : w.heap[B]? = some (.cells #[u] t (0, 0))) (v : Value) : (w.setCell ⟨B, 0, none⟩ v).heap[B]? = some (.cells #[v] t (0, 0)) := cells_setCell h v
theorem one_other {w : World} {B C : Nat} {o : Obj} (h : w.heap[B]? = some o) (hne : B ≠ C) (v : Value) : (w.setCell ⟨C, 0, none⟩ v).heap[B]? = some o := (Below.heap_setCell w ⟨C, 0, none⟩ v B hne).trans h
theorem heap_keep {w : World} {B : Nat} {o : Obj} (h : w.heap[B]? = some o) (o' : Obj) : (w.alloc o').heap[B]? = some o := (Below.heap_alloc _ _ _ (Array.getElem?_eq_some_iff.1 h).1).trans h
/-- The place behind the last row so far, the iterator's box, the bytes. -/
structure WhI (w : World) (p : Option Addr) (n cap : Nat) (g : Nat → Nat) (z : Int) (V : World) : Prop where
  bb : V.heap[w.heap.size]? = some (.cells #[.int .i64 z] 3 (0, 0))
  sb : V.heap[w.heap.size + 1]? = some (.cells #[.slice p n cap] 22 (0, 0))
  low : Below w.heap.size w V
theorem WhI.below {w : World} {p : Option Addr} {n cap : Nat} {g : Nat → Nat} {z : Int} {V V' : World} (h : WhI w p n cap g z V) (hb : Below (w.heap.size + 2) V V') : WhI w p n cap g z V' :=
  ⟨(hb.block _ (by omega)).trans h.bb, (hb.block _ (by omega)).trans h.sb, h.low.trans (hb.mono (by omega))⟩
theorem WhI.set {w : World} {p : Option Addr} {n cap : Nat} {g : Nat → Nat} {z : Int} {V : World} (h : WhI w p n cap g z V) (y : Int) : WhI w p n cap g y (V.setCell ⟨w.heap.size, 0, none⟩ (.int .i64 y)) :=
  ⟨one_set h.bb _, one_other h.sb (by omega) _, h.low.setCell (by show w.heap.size ≤ w.heap.size; omega) _⟩
set_option maxRecDepth 100000 in
set_option maxHeartbeats 1000000 in
theorem Whole_any (p : Option Addr) (n cap : Nat) (g : Nat → Nat) (hg : ∀ i, i < n → g i < 256) (hcap : n ≤ cap) (hn : n ≤ 140737488351232) (M : Nat) (P : Nat → Nat) (RO : RowsOf n g M P) (w : World) (hp : BytesAt w p n g) :
    Calls Try.prog 24 #[.slice p n cap] w fun e w' => e = .returned (.bool (((P M : Nat) : Int) == (n : Int))) ∧ Below w.heap.size w w' := by
  refine (callsIn_wide (n := 3)).1 ?_
  refine callsIn_of_wp_marks Try.func24 rfl trivial ?_ rfl
  simp only [Try.ntmps24, List.size_toArray, List.length_cons, List.length_nil, Nat.reduceAdd, Nat.reduceSub, Array.replicate_succ, Array.replicate_zero, List.push_toArray, List.append_toArray, List.nil_append, List.cons_append]
  refine wpIn_wide.2 ?_
  have HSG := Lib.hid (fun m Bx => spans_gives m Bx p n cap g hg hcap hn M P RO)
  have HZ := Lib.hid RO.zero
  have HP := Lib.hid hp
  clear hp hg RO
  go_wp2_with (first
    | (go_at_call 34; refine (spans_any _ _ _ _).mono ?_; rintro e w2 ⟨rfl, hw2⟩))
  have hI0 : WhI w p n cap g (P 0 : Nat) w2 := by
    rw [HZ.out, ← hw2]
    refine ⟨heap_keep (heap_alloc_new w _) _, ?_, below_two w _ _⟩
    have h := heap_alloc_new (w.alloc (.cells #[.int .i64 0] 3)) (.cells #[.slice p n cap] 22)
    rw [World.size_alloc] at h
    exact h
  have s2 : w2.heap.size = w.heap.size + 2 := by rw [← hw2]; simp
  have HI0 := Lib.hid hI0
  clear hw2 hI0 HZ
  refine (wpIn_wide (n := 3)).1 ?_
  refine range_ends rfl (by omega) (gf := 36) (lb := #[.pointer (some ⟨w.heap.size + 1, 0, none⟩)]) rfl trivial (enters_of Try.func36 (by kernel_rfl) rfl)
    (spE P) (fun _ i _ x => x = i) M (SpR (w.heap.size + 1) p n cap g) (fun _ => rfl)
    (fun i V => WhI w p n cap g (P i : Nat) V) (fun _ _ => False) ?rd ?st ?stx HI0.out (HSG.out _ _) ?round ?done ?stop
  case rd => exact fun i V h => ⟨cell_of_one h.sb, HP.out.below h.low⟩
  case st => exact fun i V V' h hb => h.below (by rw [s2] at hb; exact hb)
  case stx => exact fun _ _ _ h _ => h
  case stop => exact fun _ _ _ _ h _ => h.elim
  case round =>
    rintro l i0 i U hl hi hus hI rfl
    have HI := Lib.hid hI
    clear hI HI0
    unfold spE
    gi_wp2
    refine ⟨Aft.refl _ _, fun V hVs hVk hVb => ?_⟩
    rw [s2] at hVb
    have qv := HI.out.below hVb
    have c1 := cell_of_one qv.bb
    have f1 := free_of_one qv.bb
    have QW := Lib.hid (qv.set (P (i + 1) : Nat))
    have HA := Lib.hid (show Aft w2.heap.size V (V.setCell ⟨w.heap.size, 0, none⟩ (.int .i64 (P (i + 1) : Nat))) from Aft.setCell (Aft.refl _ _) (by show w.heap.size < w2.heap.size; omega) _)
    clear qv hVs hVk hVb HI
    gi_wp2
    exact ⟨HA.out, QW.out⟩
  case done =>
    rintro D U hD hI hd
    rw [s2] at hD
    have c1 := cell_of_one hI.bb
    have HI := Lib.hid hI; have HD := Lib.hid hd
    clear hI hd HI0 s2
    go_wp2
    refine ⟨by simp, .inl ⟨_, _, rfl, run_takeDeferred HD.out, ?_⟩⟩
    refine ⟨.bool (((P M : Nat) : Int) == (n : Int)), ?_, rfl, below_turn _ HI.out.low (by omega)⟩
    simp [results, Try.f24, go_sem]
end Go.Proofs.Ytfnoiijodcmaeaa

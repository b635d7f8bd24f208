/- What lies in memory between two rounds of the law CdbBlocks's walks, and its own operations. No condition. -/
import Derived.Test.YtkibeddfkenlkaaCbBk
import Derived.Test.YtkibeddfkenlkaaCbGiv
namespace Go.Proofs.Ytkibeddfkenlkaa
open Go.ChangeShapes Go.WideShapes Go.ChangeAt Go.RowKit Go.Shelf
set_option linter.unusedVariables false
set_option linter.unusedSimpArgs false
/-- A box and what lies in it. -/
def bxO (O : Nat) (T : TypeId) (A : Array Value) : Nat × Obj := (O, .cells A T (0, 0))
def mkO (D : Nat) : Nat × Obj := (D, .deferred (some []))
/-- Things that lie in a world, each at its own place, behind what was there before. -/
structure LwB (w : World) (L : List (Nat × Obj)) (V : World) : Prop where
  box : ∀ {i : Nat} {x : Nat × Obj}, L[i]? = some x → V.heap[x.1]? = some x.2 ∧ w.heap.size ≤ x.1
  low : Below w.heap.size w V
  dis : ∀ {i j : Nat} {x y : Nat × Obj}, L[i]? = some x → L[j]? = some y → x.1 = y.1 → i = j
theorem LwB.bx {w V : World} {L : List (Nat × Obj)} (h : LwB w L V) {i O : Nat} {T : TypeId} {A : Array Value} (hi : L[i]? = some (bxO O T A)) : BoxA V O T A := (h.box hi).1
theorem LwB.mark {w V : World} {L : List (Nat × Obj)} (h : LwB w L V) {i D : Nat} (hi : L[i]? = some (mkO D)) : V.heap[D]? = some (.deferred (some [])) := (h.box hi).1
theorem LwB.lt {w V : World} {L : List (Nat × Obj)} (h : LwB w L V) {i : Nat} {x : Nat × Obj} (hi : L[i]? = some x) : x.1 < V.heap.size := (Array.getElem?_eq_some_iff.1 (h.box hi).1).1
theorem LwB.ne {w V : World} {L : List (Nat × Obj)} (h : LwB w L V) {i j : Nat} {x y : Nat × Obj} (hi : L[i]? = some x) (hj : L[j]? = some y) (hn : i ≠ j) : x.1 ≠ y.1 := fun e => hn (h.dis hi hj e)
theorem LwB.none (w : World) : LwB w [] w := ⟨fun {i x} hi => by simp at hi, Below.refl _ _, fun {i j x y} hi => by simp at hi⟩
theorem LwB.mono {w V V' : World} {L : List (Nat × Obj)} (h : LwB w L V) (hb : Below V.heap.size V V') : LwB w L V' :=
  ⟨fun hi => ⟨(hb.block _ (h.lt hi)).trans (h.box hi).1, (h.box hi).2⟩, h.low.trans (hb.mono h.low.size), h.dis⟩
theorem LwB.add {w V V' : World} {L : List (Nat × Obj)} {J : Nat} {x : Obj} (h : LwB w L V) (hb : Below V.heap.size V V') (hx : V'.heap[J]? = some x) (hJ : V.heap.size ≤ J) : LwB w ((J, x) :: L) V' := by
  have h1 := h.mono hb
  refine ⟨fun {i y} hi => ?_, h1.low, fun {i j y z} hi hj e => ?_⟩
  · rcases i with _ | i
    · obtain rfl : (J, x) = y := by simpa using hi
      exact ⟨hx, Nat.le_trans h.low.size hJ⟩
    · exact h1.box (by simpa using hi)
  · rcases i with _ | i <;> rcases j with _ | j
    · rfl
    · obtain rfl : (J, x) = y := by simpa using hi
      have := h.lt (i := j) (x := z) (by simpa using hj)
      simp only at e
      omega
    · obtain rfl : (J, x) = z := by simpa using hj
      have := h.lt (i := i) (x := y) (by simpa using hi)
      simp only at e
      omega
    · rw [h.dis (i := i) (j := j) (by simpa using hi) (by simpa using hj) e]
theorem LwB.put {w V V' : World} {L : List (Nat × Obj)} (h : LwB w L V) (i : Nat) {O : Nat} {x x' : Obj} (hi : L[i]? = some (O, x)) (hx : V'.heap[O]? = some x') (k : Keeps (fun j => j = O) V V') : LwB w (L.set i (O, x')) V' := by
  have hg : ∀ {j : Nat} {y : Nat × Obj}, (L.set i (O, x'))[j]? = some y → (j = i ∧ y = (O, x')) ∨ (j ≠ i ∧ L[j]? = some y) := fun {j y} hj => by
    rw [List.getElem?_set] at hj
    split at hj
    · rename_i e
      split at hj
      · exact .inl ⟨e.symm, by simpa using hj.symm⟩
      · cases hj
    · rename_i e
      exact .inr ⟨fun e' => e e'.symm, hj⟩
  refine ⟨fun {j y} hj => ?_, h.low.trans (k.below h.low.size (fun j hj e => by have := (h.box hi).2; simp only at this; omega)), fun {j l y z} hj hl e => ?_⟩
  · rcases hg hj with ⟨rfl, rfl⟩ | ⟨hn, hj⟩
    · exact ⟨hx, (h.box hi).2⟩
    · exact ⟨(k.block _ (h.lt hj) (fun e => hn (h.dis hj hi e))).trans (h.box hj).1, (h.box hj).2⟩
  · rcases hg hj with ⟨ej, rfl⟩ | ⟨hn, hj'⟩ <;> rcases hg hl with ⟨el, rfl⟩ | ⟨hm, hl'⟩
    · exact ej.trans el.symm
    · exact ej.trans (h.dis hl' hi e.symm).symm
    · exact (h.dis hj' hi e).trans el.symm
    · exact h.dis hj' hl' e
/-- Between two rounds of a walk: the things, and what the iterator reads. -/
structure LoS (w w5 : World) (T : Nat → Prop) (L : List (Nat × Obj)) (V : World) : Prop where
  b : LwB w L V
  top : ∀ {i : Nat} {x : Nat × Obj}, L[i]? = some x → x.1 < w5.heap.size
  it : ∀ k, T k → V.heap[k]? = w5.heap[k]?
  big : w5.heap.size ≤ V.heap.size
theorem LoS.of {w w5 : World} (T : Nat → Prop) {L : List (Nat × Obj)} (h : LwB w L w5) : LoS w w5 T L w5 := ⟨h, fun hi => h.lt hi, fun _ _ => rfl, Nat.le_refl _⟩
theorem LoS.save {w w5 V V' : World} {T : Nat → Prop} {L : List (Nat × Obj)} (h : LoS w w5 T L V) (hT : ∀ k, T k → k < w5.heap.size) (hw : w.heap.size ≤ w5.heap.size) (hs : Save w5.heap.size V V') : LoS w w5 T L V' := by
  have hk : ∀ k, k < w5.heap.size → V'.heap[k]? = V.heap[k]? := fun k hk => hs.same k (by have := h.big; omega) (by omega) (by omega)
  exact ⟨⟨fun hi => ⟨(hk _ (h.top hi)).trans (h.b.box hi).1, (h.b.box hi).2⟩, ⟨hs.os.trans h.b.low.os, hs.tape.trans h.b.low.tape, hs.output.trans h.b.low.output, Nat.le_trans h.b.low.size hs.size, fun k hk' => (hk k (by omega)).trans (h.b.low.block k hk')⟩, h.b.dis⟩,
    h.top, fun k hk' => (hk k (hT k hk')).trans (h.it k hk'), Nat.le_trans h.big hs.size⟩
theorem LoS.mono {w w5 V V' : World} {T : Nat → Prop} {L : List (Nat × Obj)} (h : LoS w w5 T L V) (hT : ∀ k, T k → k < w5.heap.size) (hb : Below V.heap.size V V') : LoS w w5 T L V' :=
  ⟨h.b.mono hb, h.top, fun k hk => (hb.block k (by have := hT k hk; have := h.big; omega)).trans (h.it k hk), Nat.le_trans h.big hb.size⟩
theorem LoS.put {w w5 V V' : World} {T : Nat → Prop} {L : List (Nat × Obj)} (h : LoS w w5 T L V) (hT : ∀ k, T k → k < w5.heap.size) (i : Nat) {O : Nat} {x x' : Obj} (hi : L[i]? = some (O, x)) (hO : ¬ T O) (hx : V'.heap[O]? = some x') (k : Keeps (fun j => j = O) V V') (hz : V'.heap.size = V.heap.size) : LoS w w5 T (L.set i (O, x')) V' := by
  refine ⟨h.b.put i hi hx k, fun {j y} hj => ?_, fun l hl => (k.block l (by have := hT l hl; have := h.big; omega) (fun e => hO (e ▸ hl))).trans (h.it l hl), by rw [hz]; exact h.big⟩
  rw [List.getElem?_set] at hj
  split at hj
  · split at hj
    · obtain rfl : (O, x') = y := by simpa using hj
      have := h.top hi
      exact this
    · cases hj
  · exact h.top hj
theorem rec_put {w5 V V' : World} {O : Nat} (k : Keeps (fun j => j = O) V V') (hz : V'.heap.size = V.heap.size) (hO : O < w5.heap.size) (hb : w5.heap.size + 2 ≤ V.heap.size) : Rec w5.heap.size V V' :=
  ⟨by rw [hz]; exact Nat.le_refl _, k.block _ (by omega) (by omega), k.block _ (by omega) (by omega)⟩
theorem rec_low {w5 V V' : World} (k : Below V.heap.size V V') (hb : w5.heap.size + 2 ≤ V.heap.size) : Rec w5.heap.size V V' :=
  ⟨k.size, k.block _ (by omega), k.block _ (by omega)⟩
theorem rowSec : IsRow 56 128 (cellsOf .u8 (mk 128 zeroK)) where
  under := ⟨_, secUnder, rfl⟩
  size := by rw [secSize zeroK, cellsOf_size, mk_len]
  zero := by kernel_rfl
  zsize := by rw [cellsOf_size, mk_len]
theorem sec_size (f : Nat → Nat) : (cellsOf .u8 (mk 128 f)).size = 128 := by rw [cellsOf_size, mk_len]
theorem sec_one (f : Nat → Nat) : (cellsOf .u8 (mk 128 f)).all (·.oneCell') = true := by
  rw [Array.all_eq_true]
  intro i hi
  exact bytes_one (mk 128 f) _ (List.getElem_mem (l := (mk 128 f).map (Value.int .u8)) (n := i) (by simpa [cellsOf] using hi))
section
variable {o : Oper} {a : Act} {C : World → Prop} {K : Act → Prop}
theorem gives_sec_row (x : Operand) (ho : o.op = .slice 56 x none none none) (B : Nat) (hx : a.eval x = .pointer (some ⟨B, 0, none⟩)) (hk : K (a.put o.dst (.slice (some ⟨B, 0, none⟩) 128 128))) : ∃ v, Gives Try.prog C o a v ∧ K (a.put o.dst v) :=
  ⟨_, fun w _ => by
    have hs := byteElem.run_size (P := Try.prog) w
    have hr : (Instr.sliceAt 56 (.pointer (some ⟨B, 0, none⟩)) none none none).run Try.prog w = .ok (.slice (some ⟨B, 0, none⟩) 128 128) w := by
      simp [go_sem, hs, addr_add, Program.elem]
    unfold execOp
    simp only [ho, hx]
    simp [hr], hk⟩
theorem gives_cmfield4 (x : Operand) (ho : o.op = .fieldAddr cmT x 4) (B : Nat) (hx : a.eval x = .pointer (some ⟨B, 0, none⟩)) (hk : K (a.put o.dst (.pointer (some ⟨B, 4, none⟩)))) : ∃ v, Gives Try.prog C o a v ∧ K (a.put o.dst v) :=
  ⟨_, fun w _ => by
    unfold execOp
    simp only [ho, hx]
    simp [go_sem], hk⟩
theorem gives_mul128 (x y : Operand) (ho : o.op = .binOp .mul 3 x y 3) (i j r : Int) (hx : a.eval x = .int .i64 i) (hy : a.eval y = .int .i64 j) (h : IntKind.i64.wrap (i * j) = r) (hk : K (a.put o.dst (.int .i64 r))) : ∃ v, Gives Try.prog C o a v ∧ K (a.put o.dst v) :=
  ⟨_, fun w _ => by unfold execOp; simp only [ho, hx, hy]; simp [go_sem, h], hk⟩
theorem gives_add128 (x y : Operand) (ho : o.op = .binOp .add 3 x y 3) (i j r : Int) (hx : a.eval x = .int .i64 i) (hy : a.eval y = .int .i64 j) (h : IntKind.i64.wrap (i + j) = r) (hk : K (a.put o.dst (.int .i64 r))) : ∃ v, Gives Try.prog C o a v ∧ K (a.put o.dst v) :=
  ⟨_, fun w _ => by unfold execOp; simp only [ho, hx, hy]; simp [go_sem, h], hk⟩
end
theorem done_sec_copy {o : Oper} {a : Act} {w : World} {K : Value → World → Prop} (d s : Operand) (ho : o.op = .call { callee := .builtin .copy, args := #[d, s], argTypes := #[22, 22] }) (B : Nat) (F g : Nat → Nat) (p : Option Addr) (cap : Nat)
    (hd : a.eval d = .slice (some ⟨B, 0, none⟩) 128 128) (hs : a.eval s = .slice p 128 cap) (hB : BoxA w B 56 (cellsOf .u8 (mk 128 F))) (hp : BytesAt w p 128 g)
    (h : ∀ v w', BoxA w' B 56 (cellsOf .u8 (mk 128 g)) → Keeps (fun j => j = B) w w' → w'.heap.size = w.heap.size → K v w') : doneAt Try.prog o a w K := by
  rcases hp with hp | ⟨C, o', rfl, _, hc⟩
  · omega
  · have hl : ((mk 128 g).map (Value.int .u8)).length = 128 := by rw [List.length_map, mk_len]
    have hrun := run_copy_row (P := Try.prog) w 22 22 o.type 5 B 0 128 128 ⟨C, o', none⟩ 128 cap (cellsOf .u8 (mk 128 F)) 56 ((mk 128 g).map (Value.int .u8)) bytesUnder byteInfo hB (by rw [hl]; rfl) (fun j v hv => by
      rw [addr_add]
      have hj : j < 128 := by
        rcases Nat.lt_or_ge j ((mk 128 g).map (Value.int .u8)).length with h | h
        · omega
        · rw [List.getElem?_eq_none h] at hv; cases hv
      rw [hc j hj, ← hv]; simp [mk, hj]) (by rw [hl, sec_size]; exact Nat.le_refl _) (bytes_one _)
    rw [hl, List.append_assoc, put_cells 128 F g (Nat.le_refl _)] at hrun
    have e : mk 128 (put F 0 128 g) = mk 128 g := mk_ext fun j hj => by unfold put; simp [hj]
    rw [e] at hrun
    have hh := h (goInt 128) _ (setRow_heap _ _ _ _ _ (0, 0) hB) (keeps_row B (cellsOf .u8 (mk 128 g)) w) (by simp)
    unfold doneAt
    simp [execOp, ho, resolve, invoke, builtin, hd, hs, hrun, Result.andThen, doneUpon]
    exact hh
theorem LoS.mark {w w5 V : World} {T : Nat → Prop} {L : List (Nat × Obj)} {D : Nat} (h : LoS w w5 T L V) (hw : w.heap.size ≤ w5.heap.size) (hD : w5.heap.size ≤ D) (hd : V.heap[D]? = some (.deferred (some []))) : LwB w (mkO D :: L) V := by
  refine ⟨fun {i y} hi => ?_, h.b.low, fun {i j y z} hi hj e => ?_⟩
  · rcases i with _ | i
    · obtain rfl : mkO D = y := by simpa using hi
      exact ⟨hd, by show w.heap.size ≤ D; omega⟩
    · exact h.b.box (by simpa using hi)
  · rcases i with _ | i <;> rcases j with _ | j
    · rfl
    · obtain rfl : mkO D = y := by simpa using hi
      have := h.top (i := j) (x := z) (by simpa using hj)
      have e' : D = z.1 := e
      omega
    · obtain rfl : mkO D = z := by simpa using hj
      have := h.top (i := i) (x := y) (by simpa using hi)
      have e' : y.1 = D := e
      omega
    · rw [h.b.dis (i := i) (j := j) (by simpa using hi) (by simpa using hj) e]
theorem LwB.drew {w V : World} {L : List (Nat × Obj)} (h : LwB w L V) : LwB w L V.drew := ⟨fun hi => h.box hi, h.low.drew, h.dis⟩
def TBl (B4 B3 : Nat) (p : Option Addr) : Nat → Prop := fun k => k = B4 ∨ k = B3 ∨ AtB p k
theorem tbl_in {w0 V : World} {B4 B3 N : Nat} {p : Option Addr} {F : Nat → Nat} {T4 T3 : TypeId} {A4 A3 : Array Value} (h4 : BoxA V B4 T4 A4) (h3 : BoxA V B3 T3 A3) (hr : RowN w0 V p N F) (l4 : w0.heap.size ≤ B4) (l3 : w0.heap.size ≤ B3) : ∀ k, TBl B4 B3 p k → k < V.heap.size ∧ w0.heap.size ≤ k := by
  rintro k (rfl | rfl | ⟨o, hp⟩)
  · exact ⟨h4.lt, l4⟩
  · exact ⟨h3.lt, l3⟩
  · rcases hr with ⟨h1, -⟩ | ⟨D, h1, h2, h3⟩
    · rw [h1] at hp; cases hp
    · rw [h1] at hp; cases hp; exact ⟨h2.lt, h3⟩
theorem many_pos {x : CmdOf} {n : Nat} (h : 0 < manyC x n) : (x.k == 1 || x.k == 2) = true ∧ checkN x n = 0 := Decidable.byContradiction fun hn => by rw [many_none hn] at h; omega
section
variable {P : Program} {ops : Array Oper} {Q : Exit → Act → World → Prop} {n lr : Nat}
theorem round_sched {id : Nat} {a : Act} {w : World} {l : List Oper} (s : List (Nat × Bool)) (C : World → Prop) (hm : P.follows .mixedOrders = true) (hB : (Region.noSelect l.toArray && decide (s.length = l.length) && schedB .any l.toArray s (Array.replicate l.length false)) = true) (hd : l.all noDefer = true) (hq : ¬ LetsOut Q) (hC : C w.drew)
    (h : walkS P l.toArray C (fun a' w' => Q .normal a' w') s a w.drew) : (Code.region id l.toArray true).wpIn (Fence.wide.inRound lr) n P Q a w := by
  simp only [Bool.and_eq_true, decide_eq_true_eq] at hB
  refine wpIn_region_any hm (wpAnyIn_round (fun o ho => List.all_eq_true.1 hd o (by simpa using ho)) hq _ _ _ _ ?_)
  have := any_of_anyC (Q := Q) (fun a w _ h => h) _ _ _ _ hC (anyC_sched (md := .any) hB.1.1 s _ a w.drew hC hB.2 h)
  rw [hB.1.2] at this
  simpa using this
end
section
variable {o : Oper} {a : Act} {C : World → Prop} {K : Act → Prop}
theorem gives_cut128 (x y u : Operand) (ho : o.op = .slice 22 x (some y) (some u) none) (p : Option Addr) (n cap i : Nat) (hx : a.eval x = .slice p n cap) (hy : a.eval y = .int .i64 (128 * (i : Int))) (hu : a.eval u = .int .i64 (128 * (i : Int) + 128)) (h : 128 * i + 128 ≤ n) (hn : n ≤ cap)
    (hk : ∀ p', Behind p n (128 * i) 128 p' → K (a.put o.dst (.slice p' 128 (cap - 128 * i)))) : ∃ v, Gives Try.prog C o a v ∧ K (a.put o.dst v) := by
  refine gives_cut x y u ho p n cap (128 * i) (128 * i + 128) _ _ (by omega) (by omega) hx hy hu (by omega) h hn (fun p' hp => ?_)
  have e : 128 * i + 128 - 128 * i = 128 := by omega
  rw [e] at hp ⊢
  exact hk p' hp
end
end Go.Proofs.Ytkibeddfkenlkaa

/- Tags of one part and of two; laws for regions that hold literals of bytes. Conditions: as each says. -/
import Derived.Test.YtfjbehobpkmjbaaDoorMacL
import Derived.Test.YtfjbehobpkmjbaaDoorMacRef
import Derived.Test.YtfjbehobpkmjbaaDoorMacEx
namespace Go.Proofs.YtfjbehobpkmjbaaDoor
open Go.ChangeShapes Go.WideShapes Go.ChangeAt Go.RowKit
set_option linter.unusedVariables false

theorem partsIn_one {M : Nat} {w : World} {B : Nat} {p : Option Addr} {n c : Nat} {f : Nat → Nat} (hB : B < M) (h0 : w.cell? ⟨B, 0, none⟩ = some (.slice p n c)) (hp : n = 0 ∨ ∃ b o, p = some ⟨b, o, none⟩ ∧ b < M ∧ Cells w b o n f) : PartsIn M w (some ⟨B, 0, none⟩) 1 (fun _ => (p, n, c)) f :=
  ⟨.inr ⟨B, 0, rfl, hB, fun i hi => by
    obtain rfl : i = 0 := by omega
    exact h0⟩, fun i hi => by
    obtain rfl : i = 0 := by omega
    rcases hp with h | ⟨b, o, e1, e2, e3⟩
    · exact .inl h
    · refine .inr ⟨b, o, e1, e2, fun j hj => ?_⟩
      show w.cell? _ = some (.int .u8 (f (0 + j) : Nat))
      rw [Nat.zero_add]; exact e3 j hj⟩
theorem one_len (x : Option Addr × Nat × Nat) : lenTo (fun _ => x) 1 = x.2.1 := by show 0 + x.2.1 = _; omega
/-- The tag of one part. -/
theorem Tag_one {p : Option Addr} {n cap : Nat} {g : Nat → Nat} {B c : Nat} {pt : Option Addr} {nt ct : Nat} {gt : Nat → Nat} {w : World} (hn : n ≤ 100000) (hcap : n ≤ cap) (hg : ∀ i, i < n → g i < 256) (hnt : nt ≤ 800000) (hct : nt ≤ ct) (hgt : ∀ i, i < nt → gt i < 256)
    (hT : TabAt w) (hp : BytesAt w p n g) (hB : w.cell? ⟨B, 0, none⟩ = some (.slice pt nt ct)) (ht : BytesAt w pt nt gt) :
    Calls Tryd.prog 16 #[.slice p n cap, .slice (some ⟨B, 0, none⟩) 1 c] w fun e w' => e = .returned (.agg (cellsOf .u8 (mk 32 (tagF n g nt gt)))) ∧ Below w.heap.size w w' := by
  have hl : lenTo (fun _ => (pt, nt, ct)) 1 = nt := one_len _
  have := Tag_any p n cap g 1 c (some ⟨B, 0, none⟩) (fun _ => (pt, nt, ct)) gt hn hcap hg (by omega) (by rw [hl]; omega) (fun _ _ => hct) (by rw [hl]; exact hgt) w hT hp (partsIn_one (block_lt_of_cell hB) hB ht)
  rw [hl] at this; exact this
/-- The tag of two parts. -/
theorem Tag_two {p : Option Addr} {n cap : Nat} {g : Nat → Nat} {B c : Nat} {pa pb : Option Addr} {na ca nb cb : Nat} {ga gb : Nat → Nat} {w : World} (hn : n ≤ 100000) (hcap : n ≤ cap) (hg : ∀ i, i < n → g i < 256) (hnt : na + nb ≤ 800000) (hca : na ≤ ca) (hcb : nb ≤ cb) (hga : ∀ i, i < na → ga i < 256) (hgb : ∀ i, i < nb → gb i < 256)
    (hT : TabAt w) (hp : BytesAt w p n g) (h0 : w.cell? ⟨B, 0, none⟩ = some (.slice pa na ca)) (h1 : w.cell? ⟨B, 1, none⟩ = some (.slice pb nb cb)) (ha : BytesAt w pa na ga) (hb : BytesAt w pb nb gb) :
    Calls Tryd.prog 16 #[.slice p n cap, .slice (some ⟨B, 0, none⟩) 2 c] w fun e w' => e = .returned (.agg (cellsOf .u8 (mk 32 (tagF n g (na + nb) (cat2 na ga gb))))) ∧ Below w.heap.size w w' := by
  have hl : lenTo (consP (pa, na, ca) fun _ => (pb, nb, cb)) 2 = na + nb := two_len _ _
  have := Tag_any p n cap g 2 c (some ⟨B, 0, none⟩) (consP (pa, na, ca) fun _ => (pb, nb, cb)) (cat2 na ga gb) hn hcap hg (by omega) (by rw [hl]; omega) (two_caps hca hcb) (by rw [hl]; exact cat2_lt hga hgb) w hT hp (partsIn_two (block_lt_of_cell h0) h0 h1 ha hb)
  rw [hl] at this; exact this
/-- Whether two lists are too long; three. -/
theorem large_two {w : World} {B c : Nat} {pa pb : Option Addr} {na ca nb cb : Nat} (ha : na ≤ 140737488351232) (hb : nb ≤ 140737488351232) (h0 : w.cell? ⟨B, 0, none⟩ = some (.slice pa na ca)) (h1 : w.cell? ⟨B, 1, none⟩ = some (.slice pb nb cb)) :
    Calls Tryd.prog 10 #[.slice (some ⟨B, 0, none⟩) 2 c] w fun e w' => e = .returned (.bool (decide (4096 < na + nb))) ∧ w = w' := by
  have hl : lenTo (consP (pa, na, ca) fun _ => (pb, nb, cb)) 2 = na + nb := two_len _ _
  have := large_any (some ⟨B, 0, none⟩) 2 c (consP (pa, na, ca) fun _ => (pb, nb, cb)) (by omega) (fun i hi => by
    rcases (show i = 0 ∨ i = 1 by omega) with rfl | rfl
    · exact ha
    · exact hb) w (.inr ⟨B, 0, rfl, fun i hi => by
    rcases (show i = 0 ∨ i = 1 by omega) with rfl | rfl
    · exact h0
    · exact h1⟩)
  rw [hl] at this; exact this
section
variable {o : Oper} {a : Act} {C : World → Prop} {K : Act → Prop}
theorem gives_pick_yes (c x y : Operand) (ho : o.op = .pick c x y) (hc : a.eval c = .bool true) (v : Value) (hx : a.eval x = v) (hk : K (a.put o.dst v)) : ∃ v, Gives Tryd.prog C o a v ∧ K (a.put o.dst v) :=
  gives_pick_bool c x y ho hc v hx hk
theorem gives_pick_no (c x y : Operand) (ho : o.op = .pick c x y) (hc : a.eval c = .bool false) (v : Value) (hy : a.eval y = v) (hk : K (a.put o.dst v)) : ∃ v, Gives Tryd.prog C o a v ∧ K (a.put o.dst v) :=
  ⟨_, fun w _ => by
    unfold execOp
    simp only [ho, hc, hy]
    simp [go_sem], hk⟩
theorem gives_sum_neq (x y : Operand) (ho : o.op = .binOp .neq 30 x y 30) (f g : Nat → Nat) (hx : a.eval x = .agg (cellsOf .u8 (mk 32 f))) (hy : a.eval y = .agg (cellsOf .u8 (mk 32 g))) (h : (mk 32 f == mk 32 g) = true) (hk : K (a.put o.dst (.bool false))) : ∃ v, Gives Tryd.prog C o a v ∧ K (a.put o.dst v) :=
  ⟨.bool false, fun w _ => by
    have e := sum_eq f g w
    unfold execOp
    simp only [ho, hx, hy]
    simp [go_sem, e, h], hk⟩
theorem gives_u8_neq (x y : Operand) (ho : o.op = .binOp .neq 5 x y 5) (b c : Int) (r : Bool) (hx : a.eval x = .int .u8 b) (hy : a.eval y = .int .u8 c) (h : (b != c) = r) (hk : K (a.put o.dst (.bool r))) : ∃ v, Gives Tryd.prog C o a v ∧ K (a.put o.dst v) :=
  ⟨_, fun w _ => by
    unfold execOp
    simp only [ho, hx, hy]
    simp [go_sem, ← h], hk⟩
theorem gives_not (x : Operand) (t : TypeId) (ho : o.op = .unOp .not t x) (b : Bool) (hx : a.eval x = .bool b) (hk : K (a.put o.dst (.bool !b))) : ∃ v, Gives Tryd.prog C o a v ∧ K (a.put o.dst v) :=
  ⟨_, fun w _ => by
    have e : (Op.unary .not (.bool b)).run Tryd.prog w = .ok (.bool !b) w := by simp [go_sem]
    unfold execOp
    simp only [ho, hx, Sem.run_bind, e]; rfl, hk⟩
end

/-! Two literals of bytes, each turned to its own type: the mark that a conversion leaves. -/
theorem freeze_heap_other (w : World) (a : Addr) (n k : Nat) (h : k ≠ a.block) : (w.freeze a n).heap[k]? = w.heap[k]? := by
  unfold World.freeze
  split
  · rfl
  · simp only [Array.getElem?_modify, if_neg (Ne.symm h)]
theorem freeze_heap_same {w : World} {D : Nat} {cs : Array Value} {t : TypeId} {fr : Nat × Nat} (h : w.heap[D]? = some (.cells cs t fr)) (o n : Nat) : ∃ fr', (w.freeze ⟨D, o, none⟩ n).heap[D]? = some (.cells cs t fr') := by
  unfold World.freeze
  split
  · exact ⟨fr, h⟩
  · simp only [Array.getElem?_modify, if_true, h]
    exact ⟨_, rfl⟩
theorem freeze_size (w : World) (a : Addr) (n : Nat) : (w.freeze a n).heap.size = w.heap.size := by
  unfold World.freeze
  split
  · rfl
  · simp
theorem freeze_below (w : World) (D o n M : Nat) (h : M ≤ D) : Below M w (w.freeze ⟨D, o, none⟩ n) := by
  refine ⟨?_, ?_, ?_, by rw [freeze_size]; exact Nat.le_refl _, fun k hk => freeze_heap_other w _ n k (by show k ≠ D; omega)⟩ <;> (unfold World.freeze; split <;> rfl)
/-- A block's cells, whatever of it is marked. -/
def LitAt (w : World) (D n : Nat) (f : Nat → Nat) : Prop := ∃ fr, w.heap[D]? = some (.cells (cellsOf .u8 (mk n f)) 5 fr)
theorem LitAt.lt {w : World} {D n : Nat} {f : Nat → Nat} (h : LitAt w D n f) : D < w.heap.size := by obtain ⟨fr, h⟩ := h; exact (Array.getElem?_eq_some_iff.1 h).1
theorem LitAt.bytes {w : World} {D n : Nat} {f : Nat → Nat} (h : LitAt w D n f) : BytesAt w (some ⟨D, 0, none⟩) n f := by
  obtain ⟨fr, h⟩ := h
  refine .inr ⟨D, 0, rfl, (Array.getElem?_eq_some_iff.1 h).1, fun j hj => ?_⟩
  rw [Nat.zero_add, cell_of_row w D j _ _ fr h, cellsOf_get _ _ (by rw [mk_len]; exact hj), mk_get hj]
theorem LitAt.freeze {w : World} {D n : Nat} {f : Nat → Nat} (h : LitAt w D n f) (a : Addr) (m : Nat) (ha : a.spot = none) : LitAt (w.freeze a m) D n f := by
  obtain ⟨fr, h⟩ := h
  by_cases e : D = a.block
  · subst e
    obtain ⟨B, o, s⟩ := a
    simp only at ha h
    subst ha
    exact freeze_heap_same h o m
  · exact ⟨fr, by rw [freeze_heap_other w a m D e]; exact h⟩
theorem LitAt.alloc {w : World} {D n : Nat} {f : Nat → Nat} (h : LitAt w D n f) (o : Obj) : LitAt (w.alloc o) D n f := by
  obtain ⟨fr, h⟩ := h
  exact ⟨fr, by rw [Below.heap_alloc _ _ _ (Array.getElem?_eq_some_iff.1 h).1]; exact h⟩
theorem LitAt.below {w w' : World} {D n M : Nat} {f : Nat → Nat} (h : LitAt w D n f) (hb : Below M w w') (hM : D < M) : LitAt w' D n f := by
  obtain ⟨fr, h⟩ := h
  exact ⟨fr, (hb.block D hM).trans h⟩
theorem run_conv_lit {w : World} {D n c : Nat} {cs : Array Value} {t : TypeId} {fr : Nat × Nat} (h : w.heap[D]? = some (.cells cs t fr)) : (convert 22 22 (.slice (some ⟨D, 0, none⟩) n c)).run Tryd.prog w = .ok (.slice (some ⟨D, 0, none⟩) n c) (w.freeze ⟨D, cs.size, none⟩ 1) := by
  have hsh : w.shape? D = some (t, cs.size) := by unfold World.shape?; rw [h]
  simp [convert, run_underlying bytesUnder, run_underlying byteUnder1, markStringish, hsh]
section
variable {ops : Array Oper} {C : World → Prop} {R : Act → World → Prop}
theorem acts_mono {i : Nat} {K K' : Act → World → Prop} {a : Act} {w : World} (h : acts Tryd.prog ops C i K a w) (hk : ∀ a' w', K a' w' → K' a' w') : acts Tryd.prog ops C i K' a w := by
  obtain ⟨o, ho, h⟩ := h
  refine ⟨o, ho, ?_⟩
  rcases h with ⟨h1, h2⟩ | ⟨h1, h2⟩
  · exact .inl ⟨h1, doneUpon_mono (fun u w' ⟨c, k⟩ => ⟨c, hk _ _ k⟩) h2⟩
  · exact .inr ⟨h1, hk _ _ h2⟩
theorem put_same {a : Act} {s : Tmp} {v : Value} (h : s < a.tmps.size) : (a.put (some s) v).eval (.tmp s) = v := by simp [Act.put, Act.eval, h]
theorem put_other {a : Act} {s t : Tmp} {v : Value} (h : s ≠ t) : (a.put (some s) v).eval (.tmp t) = a.eval (.tmp t) := by simp [Act.put, Act.eval, Array.getElem?_setIfInBounds_ne h]
theorem put_size (a : Act) (s : Tmp) (v : Value) : (a.put (some s) v).tmps.size = a.tmps.size := by simp [Act.put]
theorem put_swap (a : Act) {s t : Tmp} (v u : Value) (h : s ≠ t) : (a.put (some s) v).put (some t) u = (a.put (some t) u).put (some s) v := Act.put_comm a v u (fun d hd e => by cases hd; exact h (Option.some.inj e).symm)
/-- An operation that nothing guards is carried out. -/
theorem acts_of {i : Nat} {o : Oper} {K : Act → World → Prop} {a : Act} {w : World} (hi : ops[i]? = some o) (hg : o.guard = none) (h : doneAt Tryd.prog o a w fun u w' => C w' ∧ K (a.put o.dst u) w') : acts Tryd.prog ops C i K a w :=
  ⟨o, hi, .inl ⟨by unfold Region.wanted; rw [hg], h⟩⟩
theorem done_conv {o : Oper} {a : Act} {w : World} {K : Value → World → Prop} (x : Operand) (ho : o.op = .convert 22 22 x) (D n c : Nat) {cs : Array Value} {t : TypeId} {fr : Nat × Nat} (hx : a.eval x = .slice (some ⟨D, 0, none⟩) n c)
    (h : w.heap[D]? = some (.cells cs t fr)) (hk : K (.slice (some ⟨D, 0, none⟩) n c) (w.freeze ⟨D, cs.size, none⟩ 1)) : doneAt Tryd.prog o a w K := by
  have e := run_conv_lit (n := n) (c := c) h
  unfold doneAt execOp
  simp only [ho, hx, Sem.run_bind, e]
  exact hk
/-- How far two rows of operations are. -/
def litA (s0 s1 : Tmp) (p : Value) : Nat → Act → Act
  | 0, a => a
  | 1, a => a.put (some s0) p
  | _, a => (a.put (some s0) p).put (some s1) p
def litB (t0 t1 t2 : Tmp) (p q : Value) : Nat → Act → Act
  | 0, a => a
  | 1, a => a.put (some t0) p
  | 2, a => (a.put (some t0) p).put (some t1) p
  | _, a => ((a.put (some t0) p).put (some t1) p).put (some t2) q
theorem litA_size (s0 s1 : Tmp) (p : Value) (k : Nat) (a : Act) : (litA s0 s1 p k a).tmps.size = a.tmps.size := by
  rcases k with _ | _ | k <;> simp [litA, put_size]
theorem litB_put {t0 t1 t2 s : Tmp} (p q v : Value) (l : Nat) (a : Act) (h0 : s ≠ t0) (h1 : s ≠ t1) (h2 : s ≠ t2) : (litB t0 t1 t2 p q l a).put (some s) v = litB t0 t1 t2 p q l (a.put (some s) v) := by
  rcases l with _ | _ | _ | l
  · rfl
  · exact (put_swap a v p h0).symm
  · show ((a.put (some t0) p).put (some t1) p).put (some s) v = ((a.put (some s) v).put (some t0) p).put (some t1) p
    rw [put_swap _ p v (Ne.symm h1), put_swap a p v (Ne.symm h0)]
  · show (((a.put (some t0) p).put (some t1) p).put (some t2) q).put (some s) v = (((a.put (some s) v).put (some t0) p).put (some t1) p).put (some t2) q
    rw [put_swap _ q v (Ne.symm h2), put_swap _ p v (Ne.symm h1), put_swap a p v (Ne.symm h0)]
theorem litB_eval {t0 t1 t2 s : Tmp} (p q : Value) (l : Nat) (a : Act) (h0 : s ≠ t0) (h1 : s ≠ t1) (h2 : s ≠ t2) : (litB t0 t1 t2 p q l a).eval (.tmp s) = a.eval (.tmp s) := by
  rcases l with _ | _ | _ | l
  · rfl
  · exact put_other (Ne.symm h0)
  · exact (put_other (Ne.symm h1)).trans (put_other (Ne.symm h0))
  · exact (put_other (Ne.symm h2)).trans ((put_other (Ne.symm h1)).trans (put_other (Ne.symm h0)))
/-- All orders of two such rows, one behind the other. -/
def litTree (i0 i1 j0 j1 j2 : Nat) (T : Tree) : Tree :=
  let e22 := Tree.one j2 T; let e21 := Tree.one j1 e22; let e20 := Tree.one j0 e21
  let e13 := Tree.one i1 T; let e03 := Tree.one i0 e13
  let e12 := Tree.two i1 e22 j2 e13; let e11 := Tree.two i1 e21 j1 e12; let e10 := Tree.two i1 e20 j0 e11
  let e02 := Tree.two i0 e12 j2 e03; let e01 := Tree.two i0 e11 j1 e02
  .two i0 e10 j0 e01
theorem walk_lits {T : Tree} {a : Act} {w : World} {i0 i1 j0 j1 j2 : Nat} {s0 s1 t0 t1 t2 : Tmp} {nA nB : Nat} {fA fB : Nat → Nat} {zA zB : List Int} {pA pB : Array (Nat × Operand)} {oA0 oA1 oB0 oB1 oB2 : Oper}
    (ha0 : ops[i0]? = some oA0) (ha1 : ops[i1]? = some oA1) (hb0 : ops[j0]? = some oB0) (hb1 : ops[j1]? = some oB1) (hb2 : ops[j2]? = some oB2)
    (ga0 : oA0.guard = none) (ga1 : oA1.guard = none) (gb0 : oB0.guard = none) (gb1 : oB1.guard = none) (gb2 : oB2.guard = none)
    (da0 : oA0.dst = some s0) (da1 : oA1.dst = some s1) (db0 : oB0.dst = some t0) (db1 : oB1.dst = some t1) (db2 : oB2.dst = some t2)
    (fa0 : oA0.op = .buildSlice 22 nA pA) (fa1 : oA1.op = .convert 22 22 (.tmp s0)) (fb0 : oB0.op = .buildSlice 22 nB pB) (fb1 : oB1.op = .convert 22 22 (.tmp t0)) (fb2 : oB2.op = .buildSlice 46 1 #[(0, .tmp t1)])
    (hs : s0 < a.tmps.size ∧ s1 < a.tmps.size ∧ t0 < a.tmps.size ∧ t1 < a.tmps.size ∧ t2 < a.tmps.size) (hd0 : s0 ≠ t0 ∧ s0 ≠ t1 ∧ s0 ≠ t2) (hd1 : s1 ≠ t0 ∧ s1 ≠ t1 ∧ s1 ≠ t2)
    (zAf : zA = mk nA fA) (zBf : zB = mk nB fB) (nA0 : 0 < nA ∧ nA ≤ 1000) (nB0 : 0 < nB ∧ nB ≤ 1000) (pAz : pA.toList = (zA.zipIdx 0).map fun x => (x.2, Operand.const (Value.int .u8 x.1))) (pBz : pB.toList = (zB.zipIdx 0).map fun x => (x.2, Operand.const (Value.int .u8 x.1)))
    (hC : ∀ W, Below w.heap.size w W → C W)
    (rest : ∀ (d1 d2 d3 : Nat) (W : World), Below w.heap.size w W → LitAt W d1 nA fA → LitAt W d2 nB fB → W.cell? ⟨d3, 0, none⟩ = some (.slice (some ⟨d2, 0, none⟩) nB nB) →
      walkT Tryd.prog ops C R T (litB t0 t1 t2 (.slice (some ⟨d2, 0, none⟩) nB nB) (.slice (some ⟨d3, 0, none⟩) 1 1) 3 (litA s0 s1 (.slice (some ⟨d1, 0, none⟩) nA nA) 2 a)) W) : walkT Tryd.prog ops C R (litTree i0 i1 j0 j1 j2 T) a w := by
  have hlA : nA = zA.length := by rw [zAf, mk_len]
  have hlB : nB = zB.length := by rw [zBf, mk_len]
  let J : Nat → Nat → Act → World → Prop := fun k l a' w' => ∃ d1 d2 d3, Below w.heap.size w w' ∧ a' = litB t0 t1 t2 (.slice (some ⟨d2, 0, none⟩) nB nB) (.slice (some ⟨d3, 0, none⟩) 1 1) l (litA s0 s1 (.slice (some ⟨d1, 0, none⟩) nA nA) k a) ∧
    (1 ≤ k → LitAt w' d1 nA fA ∧ w.heap.size ≤ d1) ∧ (1 ≤ l → LitAt w' d2 nB fB ∧ w.heap.size ≤ d2) ∧ (3 ≤ l → w'.cell? ⟨d3, 0, none⟩ = some (.slice (some ⟨d2, 0, none⟩) nB nB) ∧ d3 < w'.heap.size)
  have al : ∀ {w' : World} (o : Obj), Below w.heap.size w w' → Below w.heap.size w (w'.alloc o) := fun o h => h.alloc h.size o
  have sA0 : ∀ l a' w', J 0 l a' w' → acts Tryd.prog ops C i0 (J 1 l) a' w' := by
    rintro l a' w' ⟨d1, d2, d3, hb, rfl, _, h2, h3⟩
    refine acts_of ha0 ga0 (done_buildFlat nA pA fa0 zA hlA nA0.1 (by omega) pAz ⟨hC _ (al _ hb), ?_⟩)
    rw [da0, litB_put _ _ _ _ _ hd0.1 hd0.2.1 hd0.2.2]
    refine ⟨w'.heap.size, d2, d3, al _ hb, rfl, fun _ => ⟨⟨(0, 0), by rw [zAf]; exact heap_alloc_new _ _⟩, hb.size⟩, fun h => ⟨(h2 h).1.alloc _, (h2 h).2⟩, fun h => ⟨?_, by rw [World.size_alloc]; have := (h3 h).2; omega⟩⟩
    rw [← (h3 h).1]
    exact World.cell?_of_block (Below.heap_alloc _ _ _ (h3 h).2)
  have sA1 : ∀ l a' w', J 1 l a' w' → acts Tryd.prog ops C i1 (J 2 l) a' w' := by
    rintro l a' w' ⟨d1, d2, d3, hb, rfl, h1, h2, h3⟩
    obtain ⟨hl, hd⟩ := h1 (Nat.le_refl _)
    have hl0 := hl
    obtain ⟨fr, hl⟩ := hl
    have hbf := hb.trans (freeze_below w' d1 (cellsOf .u8 (mk nA fA)).size 1 w.heap.size hd)
    refine acts_of ha1 ga1 (done_conv (.tmp s0) fa1 d1 nA nA ?_ hl ⟨hC _ hbf, ?_⟩)
    · rw [litB_eval _ _ _ _ hd0.1 hd0.2.1 hd0.2.2]; exact put_same hs.1
    · rw [da1, litB_put _ _ _ _ _ hd1.1 hd1.2.1 hd1.2.2]
      refine ⟨d1, d2, d3, hbf, rfl, fun _ => ⟨hl0.freeze _ _ rfl, hd⟩, fun h => ⟨(h2 h).1.freeze _ _ rfl, (h2 h).2⟩, fun h => ⟨?_, by rw [freeze_size]; exact (h3 h).2⟩⟩
      have e : d3 ≠ d1 := fun e => by
        subst e
        have := (h3 h).1
        rw [cell_of_row w' d3 0 _ _ fr hl, cellsOf_get _ _ (by rw [mk_len]; omega)] at this
        simp at this
      rw [← (h3 h).1]
      exact World.cell?_of_block (freeze_heap_other w' _ 1 d3 e)
  have sB0 : ∀ k a' w', J k 0 a' w' → acts Tryd.prog ops C j0 (J k 1) a' w' := by
    rintro k a' w' ⟨d1, d2, d3, hb, rfl, h1, _, _⟩
    refine acts_of hb0 gb0 (done_buildFlat nB pB fb0 zB hlB nB0.1 (by omega) pBz ⟨hC _ (al _ hb), ?_⟩)
    rw [db0]
    exact ⟨d1, w'.heap.size, d3, al _ hb, rfl, fun h => ⟨(h1 h).1.alloc _, (h1 h).2⟩, fun _ => ⟨⟨(0, 0), by rw [zBf]; exact heap_alloc_new _ _⟩, hb.size⟩, fun h => absurd h (by omega)⟩
  have sB1 : ∀ k a' w', J k 1 a' w' → acts Tryd.prog ops C j1 (J k 2) a' w' := by
    rintro k a' w' ⟨d1, d2, d3, hb, rfl, h1, h2, _⟩
    obtain ⟨hl, hd⟩ := h2 (Nat.le_refl _)
    have hl0 := hl
    obtain ⟨fr, hl⟩ := hl
    have hbf := hb.trans (freeze_below w' d2 (cellsOf .u8 (mk nB fB)).size 1 w.heap.size hd)
    refine acts_of hb1 gb1 (done_conv (.tmp t0) fb1 d2 nB nB ?_ hl ⟨hC _ hbf, ?_⟩)
    · exact put_same (by rw [litA_size]; exact hs.2.2.1)
    · rw [db1]
      exact ⟨d1, d2, d3, hbf, rfl, fun h => ⟨(h1 h).1.freeze _ _ rfl, (h1 h).2⟩, fun _ => ⟨hl0.freeze _ _ rfl, hd⟩, fun h => absurd h (by omega)⟩
  have sB2 : ∀ k a' w', J k 2 a' w' → acts Tryd.prog ops C j2 (J k 3) a' w' := by
    rintro k a' w' ⟨d1, d2, d3, hb, rfl, h1, h2, _⟩
    obtain ⟨hl, hd⟩ := h2 (by omega)
    refine acts_of hb2 gb2 (done_slice1 (.tmp t1) fb2 (some ⟨d2, 0, none⟩) nB nB ?_ ⟨hC _ (al _ hb), ?_⟩)
    · exact put_same (by rw [put_size, litA_size]; exact hs.2.2.2.1)
    · rw [db2]
      exact ⟨d1, d2, w'.heap.size, al _ hb, rfl, fun h => ⟨(h1 h).1.alloc _, (h1 h).2⟩, fun _ => ⟨hl.alloc _, hd⟩, fun _ => ⟨cell_of_one (heap_alloc_new _ _), by rw [World.size_alloc]; omega⟩⟩
  have w23 : ∀ a' w', J 2 3 a' w' → walkT Tryd.prog ops C R T a' w' := by
    rintro a' w' ⟨d1, d2, d3, hb, rfl, h1, h2, h3⟩
    exact rest d1 d2 d3 w' hb (h1 (by omega)).1 (h2 (by omega)).1 (h3 (by omega)).1
  have w22 := fun a' w' (h : J 2 2 a' w') => acts_mono (sB2 2 a' w' h) w23
  have w21 := fun a' w' (h : J 2 1 a' w') => acts_mono (sB1 2 a' w' h) w22
  have w20 := fun a' w' (h : J 2 0 a' w') => acts_mono (sB0 2 a' w' h) w21
  have w13 := fun a' w' (h : J 1 3 a' w') => acts_mono (sA1 3 a' w' h) w23
  have w03 := fun a' w' (h : J 0 3 a' w') => acts_mono (sA0 3 a' w' h) w13
  have w12 := fun a' w' (h : J 1 2 a' w') => And.intro (acts_mono (sA1 2 a' w' h) w22) (acts_mono (sB2 1 a' w' h) w13)
  have w11 := fun a' w' (h : J 1 1 a' w') => And.intro (acts_mono (sA1 1 a' w' h) w21) (acts_mono (sB1 1 a' w' h) w12)
  have w10 := fun a' w' (h : J 1 0 a' w') => And.intro (acts_mono (sA1 0 a' w' h) w20) (acts_mono (sB0 1 a' w' h) w11)
  have w02 := fun a' w' (h : J 0 2 a' w') => And.intro (acts_mono (sA0 2 a' w' h) w12) (acts_mono (sB2 0 a' w' h) w03)
  have w01 := fun a' w' (h : J 0 1 a' w') => And.intro (acts_mono (sA0 1 a' w' h) w11) (acts_mono (sB1 0 a' w' h) w02)
  have h00 : J 0 0 a w := ⟨0, 0, 0, Below.refl _ _, rfl, fun h => absurd h (by omega), fun h => absurd h (by omega), fun h => absurd h (by omega)⟩
  exact ⟨acts_mono (sA0 0 a w h00) w10, acts_mono (sB0 0 a w h00) w01⟩
end
end Go.Proofs.YtfjbehobpkmjbaaDoor

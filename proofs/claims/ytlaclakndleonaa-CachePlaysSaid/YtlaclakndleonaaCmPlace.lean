/- Places by value and in slices: loaded, boxed, laid over, cut; the closure that asks for one place. Conditions: as each says. -/
import Derived.Test.YtlaclakndleonaaCmMap
import Derived.Laws.StructEq
import Derived.Laws.IdiomCopy
namespace Go.Proofs.Ytlaclakndleonaa
open Go.ChangeShapes Go.WideShapes Go.ChangeAt Go.RowKit
set_option linter.unusedVariables false
abbrev plT : TypeId := 66
abbrev plS : TypeId := 62
def placeC (p : Int × Int) : List Value := [.int .i64 p.1, .int .i64 p.2]
theorem placeSize : (Try.prog.info? plT).map (·.size) = some 2 := by kernel_rfl
theorem placeSize_run (w : World) : (sizeOf plT).run Try.prog w = .ok 2 w := by
  have hi := placeSize
  cases hq : Try.prog.info? plT with
  | none => simp [hq] at hi
  | some i =>
    have hs : i.size = 2 := by simpa [hq] using hi
    simp [sizeOf, typeInfo, hq, hs]
theorem placeZero : (Try.prog.info? plT).bind (·.zero) = some (pk 0 0) := by kernel_rfl
theorem placeZero_run (W : World) : (zeroValue plT).run Try.prog W = .ok (pk 0 0) W := by
  have h := placeZero
  cases hq : Try.prog.info? plT with
  | none => rw [hq] at h; simp at h
  | some i =>
    rw [hq] at h
    simp only [Option.bind_some] at h
    simp [zeroValue, typeInfo, hq, h]
theorem elemPlace : ElemOf Try.prog plS plT 2 16 placeC where
  under := Try.underlying62
  size := placeSize
  bytes := by kernel_rfl
  zero := ⟨pk 0 0, placeZero, by kernel_rfl⟩
  len := fun _ => rfl
  one := fun c u hu => by
    simp [placeC] at hu
    rcases hu with rfl | rfl <;> rfl
  pos := by decide
/-- A place in a box of its own. -/
def PlBox (W : World) (O : Nat) (u c : Int) : Prop := W.heap[O]? = some (.cells #[.int .i64 u, .int .i64 c] plT (0, 0))
theorem PlBox.c0 {W : World} {O : Nat} {u c : Int} (h : PlBox W O u c) : W.cell? ⟨O, 0, none⟩ = some (.int .i64 u) := cell_of_row _ _ _ _ _ _ h
theorem PlBox.c1 {W : World} {O : Nat} {u c : Int} (h : PlBox W O u c) : W.cell? ⟨O, 1, none⟩ = some (.int .i64 c) := cell_of_row _ _ _ _ _ _ h
theorem PlBox.lt {W : World} {O : Nat} {u c : Int} (h : PlBox W O u c) : O < W.heap.size := (Array.getElem?_eq_some_iff.1 h).1
theorem PlBox.keep {W W' : World} {O : Nat} {u c : Int} (h : PlBox W O u c) (hb : W'.heap[O]? = W.heap[O]?) : PlBox W' O u c := hb.trans h
theorem PlBox.range {W : World} {O : Nat} {u c : Int} (h : PlBox W O u c) : W.rangeAt O 0 (placeC (u, c)) := fun j v hv => by
  rw [Nat.zero_add, cell_of_row _ _ _ _ _ _ h]; simpa [placeC] using hv
theorem PlBox.alloc (W : World) (u c : Int) : PlBox (W.alloc (.cells #[.int .i64 u, .int .i64 c] plT)) W.heap.size u c := heap_alloc_new W _
section
variable {ops : Array Oper} {rest : List Oper} {o : Oper} {a : Act} {w : World} {Q : Exit → Act → World → Prop} {C : World → Prop} {K : Act → Prop}
theorem wpList_pl_load (hgd : o.guard = none) (x : Operand) (ho : o.op = .load plT x) (B off : Nat) (hx : a.eval x = .pointer (some ⟨B, off, none⟩)) (u c : Int) (hc : w.rangeAt B off (placeC (u, c))) (h : wpList Try.prog ops Q rest (a.put o.dst (.agg #[.int .i64 u, .int .i64 c])) w) : wpList Try.prog ops Q (o :: rest) a w :=
  wpList_load_mid hgd _ x ho B off hx (placeC (u, c)) _ hc Try.underlying66 rfl placeSize h
theorem gives_pl_load (x : Operand) (ho : o.op = .load plT x) (B off : Nat) (hx : a.eval x = .pointer (some ⟨B, off, none⟩)) (u c : Int) (hc : ∀ w, C w → w.rangeAt B off (placeC (u, c))) (hk : K (a.put o.dst (.agg #[.int .i64 u, .int .i64 c]))) : ∃ v, Gives Try.prog C o a v ∧ K (a.put o.dst v) :=
  ⟨_, fun w hw => by
    unfold execOp
    simp only [ho, hx, Instr.loadAt, Instr.sureAddr, Sem.run_bind, Sem.run_pure, Result.andThen_ok, run_loadVar_mid w B off plT (placeC (u, c)) _ (hc w hw) Try.underlying66 rfl placeSize]
    rfl, hk⟩
theorem pl_addr (x y : Operand) (ho : o.op = .indexAddr plS x y) (B n cap k : Nat) (hx : a.eval x = .slice (some ⟨B, 0, none⟩) n cap) (hy : a.eval y = .int .i64 k) (hk : k < n) (w : World) : (execOp a.eval o).run Try.prog w = .ok (.value (.pointer (some ⟨B, 2 * k, none⟩))) w := by
  have h0 : (k : Int) < n := by omega
  have hs := placeSize_run w
  unfold execOp
  simp only [ho, hx, hy]
  simp [go_sem, Try.underlying62, h0, hs, addr_add, Nat.mul_comm]
theorem wpList_pl_elem (hgd : o.guard = none) (x y : Operand) (ho : o.op = .indexAddr plS x y) (B n cap k : Nat) (hx : a.eval x = .slice (some ⟨B, 0, none⟩) n cap) (hy : a.eval y = .int .i64 k) (hk : k < n) (h : wpList Try.prog ops Q rest (a.put o.dst (.pointer (some ⟨B, 2 * k, none⟩))) w) : wpList Try.prog ops Q (o :: rest) a w :=
  wpList_plain hgd fun K hK => by
    unfold Oper.wp
    rw [pl_addr x y ho B n cap k hx hy hk w]
    exact hK _ _ h
theorem wpList_pl_put (hgd : o.guard = none) (x y : Operand) (ho : o.op = .store plT x y) (hd : o.dst = none) (B off : Nat) (hx : a.eval x = .pointer (some ⟨B, off, none⟩)) (u c : Int) (hy : a.eval y = pk u c) (ht : w.there B off 2)
    (h : wpList Try.prog ops Q rest a (w.setCells B off (placeC (u, c)))) : wpList Try.prog ops Q (o :: rest) a w :=
  wpList_store_mid hgd plT x y ho B off #[.int .i64 u, .int .i64 c] hx hy ht placeSize (by simp [Value.oneCell']) (by rw [hd]; exact h)
theorem run_places_from (p : Option Addr) (n cap k : Nat) (hk : k ≤ n) (hn : n ≤ cap) (w : World) : (Instr.sliceAt plS (.slice p n cap) (some (.int .i64 k)) none none).run Try.prog w = .ok (.slice (if cap = k then p else p.map (·.add (k * 2))) (n - k) (cap - k)) w := by
  have hs := placeSize_run w
  have e0 : (k : Int) ≤ n := by omega
  simp [go_sem, e0, hs, Program.elem, Try.underlying62]
theorem run_places_upto (p : Option Addr) (n cap k : Nat) (hk : k ≤ cap) (w : World) : (Instr.sliceAt plS (.slice p n cap) none (some (.int .i64 k)) none).run Try.prog w = .ok (.slice p k cap) w := by
  have hs := placeSize_run w
  have e1 : (0 : Int) ≤ k := by omega
  have e2 : (k : Int) ≤ cap := by omega
  simp [go_sem, e1, e2, hs, Program.elem, Try.underlying62]
theorem wpList_pl_from (hgd : o.guard = none) (x y : Operand) (ho : o.op = .slice plS x (some y) none none) (p : Option Addr) (n cap k : Nat) (hx : a.eval x = .slice p n cap) (hy : a.eval y = .int .i64 k) (hk : k ≤ n) (hn : n ≤ cap)
    (h : ∀ q, q = (if cap = k then p else p.map (·.add (k * 2))) → wpList Try.prog ops Q rest (a.put o.dst (.slice q (n - k) (cap - k))) w) : wpList Try.prog ops Q (o :: rest) a w :=
  wpList_plain hgd fun K hK => by
    have e := run_places_from p n cap k hk hn w
    unfold Oper.wp execOp
    simp only [ho]
    simp [hx, hy, e]
    exact hK _ _ (h _ rfl)
theorem wpList_pl_upto (hgd : o.guard = none) (x y : Operand) (ho : o.op = .slice plS x none (some y) none) (p : Option Addr) (n cap k : Nat) (hx : a.eval x = .slice p n cap) (hy : a.eval y = .int .i64 k) (hk : k ≤ cap)
    (h : wpList Try.prog ops Q rest (a.put o.dst (.slice p k cap)) w) : wpList Try.prog ops Q (o :: rest) a w :=
  wpList_plain hgd fun K hK => by
    have e := run_places_upto p n cap k hk w
    unfold Oper.wp execOp
    simp only [ho]
    simp [hx, hy, e]
    exact hK _ _ h
end
/-- Is it that place? -/
def isP (p : Int × Int) (u c : Int) : Bool := p.1 == u && p.2 == c
set_option maxHeartbeats 1000000 in
/-- The closure of forget, which asks for the place in the box P. -/
theorem asks_any {w : World} (P : Nat) (u c x y : Int) (hP : PlBox w P u c) : Calls Try.prog 35 #[.agg #[.int .i64 x, .int .i64 y], .pointer (some ⟨P, 0, none⟩)] w fun e w' => e = .returned (.bool (isP (x, y) u c)) ∧ Below w.heap.size w w' := by
  have h0 := hP.c0
  have h1 := hP.c1
  have hl := hP.lt
  have hne : P ≠ w.heap.size := by omega
  go_enter Try.func35, Try.ntmps35
  go_wp2
  all_goals (go_ret; exact ⟨by simp_all [isP], (Below.refl w.heap.size w).alloc (Nat.le_refl _) _⟩)
end Go.Proofs.Ytlaclakndleonaa

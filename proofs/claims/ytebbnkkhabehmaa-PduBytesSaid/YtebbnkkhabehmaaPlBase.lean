/- PlBase: cut by mkplbase.py: rows, slices taken of slices, sectors by value, errors. Conditions: as each says. -/
import Derived.Test.YtebbnkkhabehmaaWdBase
import Derived.OneCell
import Derived.OwnWalkIn
import Derived.OwnWalk
import Derived.TacticsInMore
import Derived.LoopNIn
import Derived.LoopIn
import Derived.Shelf.Abstract
namespace Go.Proofs.Ytebbnkkhabehmaa
open Go.ChangeShapes Go.WideShapes Go.ChangeAt Go.RowKit
set_option linter.unusedVariables false

/-- All that was there lies as it lay, but for block B. -/
structure But (B : Nat) (w w' : World) : Prop where
  low : Below (min B w.heap.size) w w'
  same : ∀ k, k < w.heap.size → k ≠ B → w'.heap[k]? = w.heap[k]?
theorem But.size {B : Nat} {w w' : World} (h : But B w w') : w.heap.size ≤ w'.heap.size := h.low.size
theorem But.of {B : Nat} {w w' : World} (h : Below w.heap.size w w') : But B w w' := ⟨h.mono (Nat.min_le_right _ _), fun k hk _ => h.block k hk⟩
theorem But.trans {B : Nat} {w w' w'' : World} (h : But B w w') (k : But B w' w'') : But B w w'' :=
  ⟨h.low.trans (k.low.mono (by have := h.size; omega)), fun i hi hb => (k.same i (Nat.lt_of_lt_of_le hi h.size) hb).trans (h.same i hi hb)⟩
theorem But.setRow (B : Nat) (w : World) (cs : Array Value) : But B w (w.setRow B cs) :=
  ⟨below_setRow (Below.refl _ w) (Nat.min_le_left _ _) cs, fun k _ hb => setRow_other w B k cs (fun e => hb e)⟩
theorem But.setCell (B i : Nat) (w : World) (v : Value) : But B w (w.setCell ⟨B, i, none⟩ v) :=
  ⟨(Below.refl _ w).setCell (p := ⟨B, i, none⟩) (Nat.min_le_left _ _) v, fun k _ hb => Below.heap_setCell _ _ _ k (fun e => hb e)⟩
theorem But.below {B M : Nat} {w w' : World} (h : But B w w') (hB : M ≤ B) (hw : M ≤ w.heap.size) : Below M w w' := h.low.mono (by omega)
theorem But.blk {B C : Nat} {w w' : World} {k : IntKind} {t : TypeId} {l : List Int} (h : But B w w') (hC : IntBlk w C k t l) (hne : C ≠ B) : IntBlk w' C k t l := (h.same C hC.lt hne).trans hC
theorem IntBlk.bytesAt {w : World} {B N : Nat} {t : TypeId} {F : Nat → Nat} (h : IntBlk w B .u8 t (mk N F)) : BytesAt w (some ⟨B, 0, none⟩) N F :=
  .inr ⟨B, 0, rfl, h.lt, fun j hj => by have := h.cells (o := 0) (n := N) (by omega) j hj; simp only [Nat.zero_add] at this ⊢; exact this⟩
theorem bytes_congr {w : World} {p : Option Addr} {n : Nat} {g g' : Nat → Nat} (h : ∀ j, j < n → g j = g' j) (hp : BytesAt w p n g) : BytesAt w p n g' :=
  hp.imp id fun ⟨B, o, e, hl, hc⟩ => ⟨B, o, e, hl, fun i hi => by rw [← h i hi]; exact hc i hi⟩
section
variable {ops : Array Oper} {rest : List Oper} {o : Oper} {a : Act} {w : World} {Q : Exit → Act → World → Prop}
theorem run_noughts (M : Nat) (hM : M ≤ 140737488355328) (w : World) : (Instr.makeSlice 22 (.int .i64 M) (.int .i64 M)).run Try.prog w = .ok (.slice (some ⟨w.heap.size, 0, none⟩) M M) (w.alloc (.cells (cellsOf .u8 (mk M zeroK)) 5)) := by
  have hi := byteInfo
  have hz := byteZero1
  have hb := byteBytes1
  cases hq : Try.prog.info? 5 with
  | none => rw [hq] at hi; simp at hi
  | some i =>
    rw [hq] at hi hz hb
    have hsz : i.size = 1 := by simpa using hi
    have hzz : i.zero = some (.int .u8 0) := by simpa using hz
    have hby : i.bytes = 1 := by simpa using hb
    have e := run_make (P := Try.prog) w 22 5 i _ bytesUnder hq hzz .i64 .i64 M M (by omega) (by omega) (by rw [hby]; omega) (by omega)
    have hc : (Value.int .u8 0).cells = cellsOf .u8 (mk 1 zeroK) := rfl
    rw [hsz, Int.toNat_natCast, made_zero hc (by omega), Nat.mul_one] at e
    exact e
theorem wpList_noughts (hgd : o.guard = none) (x y : Operand) (ho : o.op = .makeSlice 22 x y) (M : Nat) (hM : M ≤ 140737488355328) (hx : a.eval x = .int .i64 M) (hy : a.eval y = .int .i64 M)
    (h : wpList Try.prog ops Q rest (a.put o.dst (.slice (some ⟨w.heap.size, 0, none⟩) M M)) (w.alloc (.cells (cellsOf .u8 (mk M zeroK)) 5))) : wpList Try.prog ops Q (o :: rest) a w :=
  wpList_plain hgd fun _ hK => by
    have e := run_noughts M hM w
    unfold Oper.wp execOp
    simp only [ho]
    simp [hx, hy, e]
    exact hK _ _ h
theorem put_none (F : Nat → Nat) (off : Nat) (g : Nat → Nat) : put F off 0 g = F := funext fun j => if_neg (by omega)
/-- Bytes copied into a part of a block that has room for all of them. -/
theorem wpList_copy_bytes (hgd : o.guard = none) (d s : Operand) (ho : o.op = .call { callee := .builtin .copy, args := #[d, s], argTypes := #[22, 22] })
    (B off dLen dCap N : Nat) (F : Nat → Nat) (dp : Option Addr) (hd : a.eval d = .slice dp dLen dCap) (p : Option Addr) (n cap : Nat) (hdp : n ≠ 0 → dp = some ⟨B, off, none⟩) (g : Nat → Nat) (hs : a.eval s = .slice p n cap) (t : TypeId) (hB : IntBlk w B .u8 t (mk N F)) (hn : n ≤ dLen) (hN : off + dLen ≤ N) (hp : BytesAt w p n g)
    (h : ∀ (v : Value) (w' : World), IntBlk w' B .u8 t (mk N (put F off n g)) → But B w w' → w'.heap.size = w.heap.size → wpList Try.prog ops Q rest (a.put o.dst v) w') : wpList Try.prog ops Q (o :: rest) a w := by
  by_cases h0 : n = 0
  · subst h0
    refine wpList_copy_nothing hgd d s _ _ ho 5 bytesUnder byteInfo _ p dLen dCap 0 cap hd hs (by simp) ?_
    exact h _ _ (by rw [put_none]; exact hB) (.of (Below.refl _ _)) rfl
  · have hdp := hdp h0
    subst hdp
    rcases hp with hp | ⟨C, o', rfl, _, hc⟩
    · exact absurd hp h0
    · refine wpList_copy_part hgd d s _ _ ho 5 bytesUnder byteInfo B off dLen dCap C o' n cap n N F g hd hs t hB (by omega) (Nat.min_eq_left hn).symm hc ?_
      exact h _ _ (hB.setRow .u8 _) (.setRow _ _ _) (by simp)
end

def extF (n : Nat) (g : Nat → Nat) : Nat → Nat := fun j => if j < n then g j else 0
theorem extF_put (n N : Nat) (g : Nat → Nat) : mk N (put zeroK 0 n g) = mk N (extF n g) := mk_ext fun j _ => by unfold put extF zeroK; simp
/-- What lies behind the first k of so many bytes. -/
def Behind (p : Option Addr) (n k m : Nat) (p' : Option Addr) : Prop := ∀ (V : World) (g : Nat → Nat), BytesAt V p n g → BytesAt V p' m (fun j => g (k + j))
theorem BytesAt.upto {w : World} {p : Option Addr} {n k : Nat} {g : Nat → Nat} (h : BytesAt w p n g) (hk : k ≤ n) : BytesAt w p k g := by
  rcases h with h | ⟨B, o, hp, hB, hc⟩
  · exact .inl (by omega)
  · exact .inr ⟨B, o, hp, hB, fun j hj => hc j (by omega)⟩
theorem behind_of (p : Option Addr) (n cap k m : Nat) (hm : k + m ≤ n) (hn : n ≤ cap) : Behind p n k m (if cap = k then p else p.map (·.add k)) := fun V g h => by
  by_cases e : m = 0
  · exact .inl e
  · rw [if_neg (by omega)]
    rcases h with h | ⟨B, o, rfl, hB, hc⟩
    · omega
    · refine .inr ⟨B, o + k, by simp [addr_add], hB, fun j hj => ?_⟩
      rw [Nat.add_assoc]; exact hc (k + j) (by omega)
theorem run_upto (p : Option Addr) (n cap k : Nat) (hk : k ≤ cap) (w : World) : (Instr.sliceAt 22 (.slice p n cap) none (some (.int .i64 k)) none).run Try.prog w = .ok (.slice p k cap) w := by
  have hs := byteElem.run_size (P := Try.prog) w
  have e1 : (0 : Int) ≤ k := by omega
  have e2 : (k : Int) ≤ cap := by omega
  simp [go_sem, e1, e2, hs, Program.elem]
theorem run_tail (p : Option Addr) (n cap k : Nat) (hk : k ≤ n) (hn : n ≤ cap) (w : World) : (Instr.sliceAt 22 (.slice p n cap) (some (.int .i64 k)) none none).run Try.prog w = .ok (.slice (if cap = k then p else p.map (·.add k)) (n - k) (cap - k)) w := by
  have hs := byteElem.run_size (P := Try.prog) w
  have e1 : (0 : Int) ≤ k := by omega
  have e2 : (k : Int) ≤ n := by omega
  simp [go_sem, e1, e2, hs, Program.elem]
theorem run_cut (p : Option Addr) (n cap k m : Nat) (hk : k ≤ m) (hm : m ≤ cap) (w : World) : (Instr.sliceAt 22 (.slice p n cap) (some (.int .i64 k)) (some (.int .i64 m)) none).run Try.prog w = .ok (.slice (if cap = k then p else p.map (·.add k)) (m - k) (cap - k)) w := by
  have hs := byteElem.run_size (P := Try.prog) w
  have e1 : (0 : Int) ≤ k := by omega
  have e2 : (k : Int) ≤ m := by omega
  have e3 : (m : Int) ≤ cap := by omega
  simp [go_sem, e1, e2, e3, hs, Program.elem]
section
variable {ops : Array Oper} {rest : List Oper} {o : Oper} {a : Act} {w : World} {Q : Exit → Act → World → Prop}
theorem wanted_step (hw : Region.wanted o (yielded ops a.tmps) = true) (h : ∀ K : Act → World → Prop, (∀ a w, wpList Try.prog ops Q rest a w → K a w) → o.wp Try.prog a w K Q) : wpList Try.prog ops Q (o :: rest) a w :=
  wpList_step fun K hK => by rw [if_pos hw]; exact h K hK
theorem wpList_upto (hgd : o.guard = none) (x y : Operand) (ho : o.op = .slice 22 x none (some y) none) (p : Option Addr) (n cap k : Nat) (z : Int) (hz : z = k) (hx : a.eval x = .slice p n cap) (hy : a.eval y = .int .i64 z) (hk : k ≤ cap)
    (h : wpList Try.prog ops Q rest (a.put o.dst (.slice p k cap)) w) : wpList Try.prog ops Q (o :: rest) a w := by
  subst hz
  refine wpList_plain hgd fun K hK => ?_
  have hr := run_upto p n cap k hk w
  unfold Oper.wp execOp
  simp only [ho, hx]
  simp [hy, hr]
  exact hK _ _ h
/-- The end of a slice; the operation may have a guard that is met. -/
theorem wpList_tail (hw : Region.wanted o (yielded ops a.tmps) = true) (x y : Operand) (ho : o.op = .slice 22 x (some y) none none) (p : Option Addr) (n cap k : Nat) (z : Int) (hz : z = k) (hx : a.eval x = .slice p n cap) (hy : a.eval y = .int .i64 z) (hk : k ≤ n) (hn : n ≤ cap)
    (h : ∀ p', Behind p n k (n - k) p' → (∀ D o o', p = some ⟨D, o, none⟩ → o' = o + k → k < cap → p' = some ⟨D, o', none⟩) → wpList Try.prog ops Q rest (a.put o.dst (.slice p' (n - k) (cap - k))) w) : wpList Try.prog ops Q (o :: rest) a w := by
  subst hz
  have hr := run_tail p n cap k hk hn w
  refine wanted_step hw fun K hK => ?_
  unfold Oper.wp execOp
  simp only [ho, hx]
  simp [hy, hr]
  refine hK _ _ (h _ (behind_of p n cap k (n - k) (by omega) hn) fun D o o' hD ho' hlt => ?_)
  subst hD ho'
  rw [if_neg (by omega)]
  simp [addr_add]
theorem wpList_cut (hgd : o.guard = none) (x y u : Operand) (ho : o.op = .slice 22 x (some y) (some u) none) (p : Option Addr) (n cap k m : Nat) (z v : Int) (hz : z = k) (hv : v = m) (hx : a.eval x = .slice p n cap) (hy : a.eval y = .int .i64 z) (hu : a.eval u = .int .i64 v) (hk : k ≤ m) (hm : m ≤ n) (hn : n ≤ cap)
    (h : ∀ p', Behind p n k (m - k) p' → wpList Try.prog ops Q rest (a.put o.dst (.slice p' (m - k) (cap - k))) w) : wpList Try.prog ops Q (o :: rest) a w := by
  subst hz hv
  have hr := run_cut p n cap k m hk (by omega) w
  refine wpList_plain hgd fun K hK => ?_
  unfold Oper.wp execOp
  simp only [ho, hx]
  simp [hy, hu, hr]
  exact hK _ _ (h _ (behind_of p n cap k (m - k) (by omega) hn))
end
section
variable {o : Oper} {a : Act} {C : World → Prop} {K : Act → Prop}
theorem gives_upto (x y : Operand) (ho : o.op = .slice 22 x none (some y) none) (p : Option Addr) (n cap k : Nat) (z : Int) (hz : z = k) (hx : a.eval x = .slice p n cap) (hy : a.eval y = .int .i64 z) (hk1 : k ≤ cap)
    (hk : K (a.put o.dst (.slice p k cap))) : ∃ v, Gives Try.prog C o a v ∧ K (a.put o.dst v) := by
  subst hz
  refine ⟨_, fun w _ => ?_, hk⟩
  have hr := run_upto p n cap k hk1 w
  unfold execOp
  simp only [ho, hx]
  simp [hy, hr]
theorem gives_tail (x y : Operand) (ho : o.op = .slice 22 x (some y) none none) (p : Option Addr) (n cap k : Nat) (z : Int) (hz : z = k) (hx : a.eval x = .slice p n cap) (hy : a.eval y = .int .i64 z) (hk1 : k ≤ n) (hn : n ≤ cap)
    (hk : ∀ p', Behind p n k (n - k) p' → K (a.put o.dst (.slice p' (n - k) (cap - k)))) : ∃ v, Gives Try.prog C o a v ∧ K (a.put o.dst v) := by
  subst hz
  refine ⟨_, fun w _ => ?_, hk _ (behind_of p n cap k (n - k) (by omega) hn)⟩
  have hr := run_tail p n cap k hk1 hn w
  unfold execOp
  simp only [ho, hx]
  simp [hy, hr]
theorem gives_cut (x y u : Operand) (ho : o.op = .slice 22 x (some y) (some u) none) (p : Option Addr) (n cap k m : Nat) (z v : Int) (hz : z = k) (hv : v = m) (hx : a.eval x = .slice p n cap) (hy : a.eval y = .int .i64 z) (hu : a.eval u = .int .i64 v) (hk1 : k ≤ m) (hm : m ≤ n) (hn : n ≤ cap)
    (hk : ∀ p', Behind p n k (m - k) p' → K (a.put o.dst (.slice p' (m - k) (cap - k)))) : ∃ v, Gives Try.prog C o a v ∧ K (a.put o.dst v) := by
  subst hz hv
  refine ⟨_, fun w _ => ?_, hk _ (behind_of p n cap k (m - k) (by omega) hn)⟩
  have hr := run_cut p n cap k m hk1 (by omega) w
  unfold execOp
  simp only [ho, hx]
  simp [hy, hu, hr]
end
/-- A call in a region walked by one order. -/
theorem done_enter1 {o : Oper} {a : Act} {w : World} {K : Value → World → Prop} (x y : Operand) (ts : Array TypeId) (ho : o.op = .call { callee := .value x, args := #[y], argTypes := ts }) (g : FuncId)
    (hx : a.eval x = .func (.func g) #[] #[]) (hf : ∀ (args : Array Value) (w : World), (callFunc g args).run Try.prog w = .ok (.enter g args) w) (u : Value) (hy : a.eval y = u) (R : Ending → World → Prop) (hc : Calls Try.prog g #[u] w R) (hk : ∀ e w', R e w' → ∃ u, e = .returned u ∧ K u w') : doneAt Try.prog o a w K :=
  done_call x #[y] ts ho g #[u] hx (by simp only [List.map_toArray, List.map_cons, List.map_nil, hy]) (hf _ w) (hc.mono hk)
theorem done_enter2 {o : Oper} {a : Act} {w : World} {K : Value → World → Prop} (x y z : Operand) (ts : Array TypeId) (ho : o.op = .call { callee := .value x, args := #[y, z], argTypes := ts }) (g : FuncId)
    (hx : a.eval x = .func (.func g) #[] #[]) (hf : ∀ (args : Array Value) (w : World), (callFunc g args).run Try.prog w = .ok (.enter g args) w) (u v : Value) (hy : a.eval y = u) (hz : a.eval z = v) (R : Ending → World → Prop) (hc : Calls Try.prog g #[u, v] w R) (hk : ∀ e w', R e w' → ∃ u, e = .returned u ∧ K u w') : doneAt Try.prog o a w K :=
  done_call x #[y, z] ts ho g #[u, v] hx (by simp only [List.map_toArray, List.map_cons, List.map_nil, hy, hz]) (hf _ w) (hc.mono hk)

def secV (f : Nat → Nat) : Value := .agg (cellsOf .u8 (mk 128 f))
theorem sec_same (f g : Nat → Nat) : (cellsOf .u8 (mk 128 f)).size = (cellsOf .u8 (mk 128 g)).size := by simp only [cellsOf_size, mk_len]
def fiveK : Nat → Nat := fun j => if j = 0 then 5 else 0
section
variable {ops : Array Oper} {rest : List Oper} {o : Oper} {a : Act} {w : World} {Q : Exit → Act → World → Prop}
end
theorem results_cell_row_tmp {P : Program} {fn : Func} {p u : Tmp} {ty : TypeId} (h : fn.results = #[.cell p ty, .tmp u]) (tmps : Array Value) (w : World) (g : Nat) (t : TypeId) (cs : Array Value) (fr : Nat × Nat) (d : TypeDesc)
    (hp : tmps.getD p undef = .pointer (some ⟨g, 0, none⟩)) (hg : w.heap[g]? = some (.cells cs t fr)) (hu : P.underlying ty = some d) (hd : (match d with | .struct _ | .array _ _ => true | _ => false) = true) (hi : (P.info? ty).map (·.size) = some cs.size) :
    (results fn tmps).run P w = .ok (.tuple #[.agg cs, tmps.getD u undef]) w := by
  rw [results_cell_tmp h, hp]
  simp only [asAddr, Sem.run_pure, Result.andThen_ok, run_loadVar_row w g t ty cs fr d hg hu hd hi]
end Go.Proofs.Ytebbnkkhabehmaa

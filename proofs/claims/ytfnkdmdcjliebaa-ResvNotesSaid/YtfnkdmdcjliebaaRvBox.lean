/- Structs in boxes, the world behind each operation a variable: loaded, made, written. Conditions: as each says. -/
import Derived.Test.YtfnkdmdcjliebaaRvFacts
namespace Go.Proofs.Ytfnkdmdcjliebaa
open Go.ChangeShapes Go.WideShapes Go.ChangeAt Go.RowKit
set_option linter.unusedVariables false
/-- A struct of type T in a box. -/
def BoxA (W : World) (O : Nat) (T : TypeId) (A : Array Value) : Prop := W.heap[O]? = some (.cells A T (0, 0))
theorem BoxA.lt {W : World} {O : Nat} {T : TypeId} {A : Array Value} (h : BoxA W O T A) : O < W.heap.size := (Array.getElem?_eq_some_iff.1 h).1
theorem BoxA.keep {W W' : World} {O : Nat} {T : TypeId} {A : Array Value} (h : BoxA W O T A) (hb : W'.heap[O]? = W.heap[O]?) : BoxA W' O T A := hb.trans h
theorem BoxA.cell {W : World} {O : Nat} {T : TypeId} {A : Array Value} (h : BoxA W O T A) (k : Nat) : W.cell? ⟨O, k, none⟩ = A[k]? := cell_of_row _ _ _ _ _ _ h
theorem BoxA.free {W : World} {O : Nat} {T : TypeId} {A : Array Value} (h : BoxA W O T A) (k : Nat) : W.frozen? ⟨O, k, none⟩ = false := frozen_of_row _ _ _ _ _ h
theorem BoxA.alloc (W : World) (T : TypeId) (A : Array Value) : BoxA (W.alloc (.cells A T)) W.heap.size T A := heap_alloc_new W _
theorem BoxA.set {W : World} {O : Nat} {T : TypeId} {A : Array Value} (h : BoxA W O T A) (k : Nat) (v : Value) : BoxA (W.setCell ⟨O, k, none⟩ v) O T (A.setIfInBounds k v) := heap_setCell_same _ _ _ _ _ _ h
/-- What is to be known of a struct's type. -/
structure IsRow (T : TypeId) (sz : Nat) (z : Array Value) : Prop where
  under : ∃ d, Try.prog.underlying T = some d ∧ (match d with | .struct _ | .array _ _ => true | _ => false) = true
  size : (Try.prog.info? T).map (·.size) = some sz
  zero : (Try.prog.info? T).bind (·.zero) = some (.agg z)
  zsize : z.size = sz
theorem IsRow.zero_run {T : TypeId} {sz : Nat} {z : Array Value} (R : IsRow T sz z) (W : World) : (zeroValue T).run Try.prog W = .ok (.agg z) W := by
  have h := R.zero
  cases hq : Try.prog.info? T with
  | none => rw [hq] at h; simp at h
  | some i =>
    rw [hq] at h
    simp only [Option.bind_some] at h
    simp [zeroValue, typeInfo, hq, h]
def zeroRv : ResvOf := ⟨[], 0, 0, false, 0⟩
def zeroOp : ROp := ⟨0, 0, 0, 0, 0, false⟩
theorem rowRv : IsRow rvT 5 (resvA none 0 0 zeroRv) := ⟨⟨_, Try.underlying24, rfl⟩, by kernel_rfl, by kernel_rfl, rfl⟩
theorem rowOp : IsRow roT 6 (ropA zeroOp) := ⟨⟨_, Try.underlying26, rfl⟩, by kernel_rfl, by kernel_rfl, rfl⟩
theorem ropA_one (o : ROp) : (ropA o).all (·.oneCell') = true := by simp [ropA, Value.oneCell']
theorem keeps_row (O : Nat) (cs : Array Value) (w : World) : Keeps (fun k => k = O) w (w.setRow O cs) := (Keeps.refl (fun k => k = O) w).setRow rfl cs
section
variable {ops : Array Oper} {rest : List Oper} {o : Oper} {a : Act} {w : World} {Q : Exit → Act → World → Prop} {T : TypeId} {sz : Nat} {z : Array Value}
theorem wpList_boxA_load (R : IsRow T sz z) (hgd : o.guard = none) (x : Operand) (ho : o.op = .load T x) (O : Nat) (A : Array Value) (hA : A.size = sz) (hx : a.eval x = .pointer (some ⟨O, 0, none⟩)) (hO : BoxA w O T A)
    (h : wpList Try.prog ops Q rest (a.put o.dst (.agg A)) w) : wpList Try.prog ops Q (o :: rest) a w := by
  obtain ⟨d, hu, hd⟩ := R.under
  refine wpList_load_row hgd T x ho O hx T A (0, 0) d hO hu ?_ (by rw [hA]; exact R.size) h
  cases d <;> first | rfl | exact hd
/-- The same, where the load is guarded and wanted. -/
theorem wpList_boxA_loadw (R : IsRow T sz z) (x : Operand) (ho : o.op = .load T x) (hw : Region.wanted o (yielded ops a.tmps) = true) (O : Nat) (A : Array Value) (hA : A.size = sz) (hx : a.eval x = .pointer (some ⟨O, 0, none⟩)) (hO : BoxA w O T A)
    (h : wpList Try.prog ops Q rest (a.put o.dst (.agg A)) w) : wpList Try.prog ops Q (o :: rest) a w := by
  obtain ⟨d, hu, hd⟩ := R.under
  refine wanted_step hw fun K hK => wp_load_row T x ho O hx T A (0, 0) d hO hu ?_ (by rw [hA]; exact R.size) (hK _ _ h)
  cases d <;> first | rfl | exact hd
theorem wpList_boxA_new (R : IsRow T sz z) (ho : o.op = .alloc T) (hw : Region.wanted o (yielded ops a.tmps) = true) (S : Nat) (hS : w.heap.size = S)
    (h : ∀ w', BoxA w' S T z → Below w.heap.size w w' → w'.heap.size = w.heap.size + 1 → wpList Try.prog ops Q rest (a.put o.dst (.pointer (some ⟨S, 0, none⟩))) w') : wpList Try.prog ops Q (o :: rest) a w :=
  wanted_step hw fun K hK => by
    subst hS
    have e := R.zero_run w
    unfold Oper.wp execOp
    simp only [ho]
    simp [go_sem, e]
    exact hK _ _ (h _ (BoxA.alloc w T z) ((Below.refl _ w).alloc (Nat.le_refl _) _) (World.size_alloc _ _))
theorem wpList_boxA_put (R : IsRow T sz z) (hgd : o.guard = none) (x y : Operand) (ho : o.op = .store T x y) (hd : o.dst = none) (O : Nat) (A old : Array Value) (hA : A.size = sz) (h1 : A.all (·.oneCell') = true) (hold : old.size = sz) (hx : a.eval x = .pointer (some ⟨O, 0, none⟩)) (hy : a.eval y = .agg A) (hO : BoxA w O T old)
    (h : ∀ w', BoxA w' O T A → Keeps (fun k => k = O) w w' → w'.heap.size = w.heap.size → wpList Try.prog ops Q rest a w') : wpList Try.prog ops Q (o :: rest) a w :=
  store_row_on hgd T x y ho hd O A hx hy T old hO (by rw [hA]; exact R.size) (hold.trans hA.symm) h1 (h _ (setRow_heap _ _ _ _ _ (0, 0) hO) (keeps_row O _ w) (by simp))
theorem wpList_boxA_of (hgd : o.guard = none) (x : Operand) (ho : o.op = .box T x) (A : Array Value) (hx : a.eval x = .agg A)
    (h : ∀ w', BoxA w' w.heap.size T A → Below w.heap.size w w' → w'.heap.size = w.heap.size + 1 → wpList Try.prog ops Q rest (a.put o.dst (.pointer (some ⟨w.heap.size, 0, none⟩))) w') : wpList Try.prog ops Q (o :: rest) a w :=
  wpList_plain hgd fun K hK => by
    unfold Oper.wp execOp
    simp only [ho, hx]
    simp [go_sem]
    exact hK _ _ (h _ (BoxA.alloc w T A) ((Below.refl _ w).alloc (Nat.le_refl _) _) (World.size_alloc _ _))
end
theorem do_few (r : ResvOf) (o : ROp) : (doR r o).1.regs.length ≤ 4 := by
  have key : ∀ v, doR r o = v → v.1.regs.length ≤ 4 := by
    intro v hv
    unfold doR at hv
    split at hv
    · subst hv; exact Nat.zero_le _
    rename_i b1
    have b1' : (!(goodR r) || !(wellR o)) = false := by simpa using b1
    rw [Bool.or_eq_false_iff] at b1'
    have hr : r.regs.length ≤ 4 := (good_iff.1 (by simpa using b1'.1)).few
    have hset : ∀ s : ResvOf, (settleR s).regs = s.regs := fun s => by
      unfold settleR
      split
      · split <;> rfl
      · rfl
    split at hv
    · subst hv; exact Nat.zero_le _
    split at hv
    · split at hv
      · split at hv
        · rename_i h4; subst hv; exact h4
        · subst hv; exact Nat.zero_le _
      · subst hv
        show (withoutR r [o.who]).regs.length ≤ 4
        unfold withoutR
        rw [hset]
        exact Nat.le_trans (List.length_filter_le _ _) hr
    split at hv
    · split at hv
      · subst hv; exact hr
      · split at hv
        · subst hv; exact hr
        · subst hv; exact Nat.zero_le _
    split at hv
    · split at hv
      · subst hv; exact hr
      · split at hv
        · subst hv; exact Nat.zero_le _
        · subst hv; exact hr
    split at hv
    · subst hv; exact Nat.zero_le _
    split at hv
    · subst hv; exact Nat.zero_le _
    subst hv
    show (withoutR _ _).regs.length ≤ 4
    unfold withoutR
    rw [hset]
    refine Nat.le_trans (List.length_filter_le _ _) ?_
    split <;> exact hr
  exact key _ rfl
theorem OwnR.at_ {w w' : World} {q : Option Addr} {n c : Nat} {r : ResvOf} (h : OwnR w w' q n c r.regs) (hk : r.ok) (hl : r.regs.length ≤ 4) : RvAt w' q n c r ∧ n = r.regs.length := by
  obtain ⟨p, c', hv, h1, h2, h3, -⟩ := h.rows elemReg.len
  cases hv
  exact ⟨⟨h3, rfl, h1, h2, hk, by omega⟩, rfl⟩
theorem OwnR.base {w w' : World} {q : Option Addr} {n c : Nat} {ks : List (Int × Int)} (h : OwnR w w' q n c ks) : ∀ k, AtB q k → w.heap.size ≤ k := fun k ⟨o, e⟩ => by
  obtain ⟨p, c', hv, -, -, -, hb⟩ := h.rows elemReg.len
  cases hv
  exact (hb k o e).1
theorem RvAt.keepB {w w' : World} {q : Option Addr} {n c : Nat} {r : ResvOf} (h : RvAt w q n c r) (hs : w.heap.size ≤ w'.heap.size) (hb : ∀ k, AtB q k → k < w.heap.size → w'.heap[k]? = w.heap[k]?) : RvAt w' q n c r := by
  refine ⟨?_, h.len, h.cap, h.top, h.ok, h.few⟩
  rcases h.at_ with h1 | ⟨B, o, h1, h2, h3⟩
  · exact .inl h1
  · exact .inr ⟨B, o, h1, Nat.lt_of_lt_of_le h2 hs, fun i x hx j v hv => (World.cell?_of_block (w := w) (a := ⟨B, o + 2 * i + j, none⟩) (hb B ⟨o, h1⟩ h2)).trans (h3 i x hx j v hv)⟩
theorem errN_not {z : Int} (h : z ≠ 0) : errN z = .iface 45 (.int .i64 z) := if_neg h
end Go.Proofs.Ytfnkdmdcjliebaa

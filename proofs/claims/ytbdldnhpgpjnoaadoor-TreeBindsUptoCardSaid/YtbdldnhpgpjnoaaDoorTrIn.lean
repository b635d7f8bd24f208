/- Tags read and written in rounds of loops over iterators. Conditions: as each says. -/
import Derived.Test.YtbdldnhpgpjnoaaDoorTrText
namespace Go.Proofs.YtbdldnhpgpjnoaaDoor
open Go.ChangeShapes Go.WideShapes Go.ChangeAt Go.RowKit
set_option linter.unusedVariables false
theorem heap_keep {w : World} {B : Nat} {o : Obj} (h : w.heap[B]? = some o) (o' : Obj) : (w.alloc o').heap[B]? = some o := (Below.heap_alloc _ _ _ (Array.getElem?_eq_some_iff.1 h).1).trans h
section
variable {F : Fence} {m l : Nat} {ops : Array Oper} {rest : List Oper} {o : Oper} {a : Act} {w : World} {Q : Exit → Act → World → Prop}
theorem wantIn {a2 : Act} {w2 : World} (hF : F = Fence.wide.inRound l) (hw : Region.wanted o (yielded ops a.tmps) = true) (hd : noDefer o = true) (h : ∀ K : Act → World → Prop, K a2 w2 → o.wp Tryd.prog a w K Q) (hk : wpListIn F m Tryd.prog ops Q rest a2 w2) : wpListIn F m Tryd.prog ops Q (o :: rest) a w := by
  subst hF
  exact wpListIn_step fun K hK => by rw [if_pos hw]; exact oper_round hd (h K (hK _ _ hk))
theorem givesIn {v : Value} (hF : F = Fence.wide.inRound l) (hw : Region.wanted o (yielded ops a.tmps) = true) (hd : noDefer o = true) (hv : (execOp a.eval o).run Tryd.prog w = .ok (.value v) w) (h : wpListIn F m Tryd.prog ops Q rest (a.put o.dst v) w) : wpListIn F m Tryd.prog ops Q (o :: rest) a w :=
  wantIn hF hw hd (fun K hK => by unfold Oper.wp; rw [hv]; exact hK) h
theorem sumIn_load (hF : F = Fence.wide.inRound l) (hw : Region.wanted o (yielded ops a.tmps) = true) (hd : noDefer o = true) (x : Operand) (ho : o.op = .load 27 x) (B off : Nat) (hx : a.eval x = .pointer (some ⟨B, off, none⟩)) (s : List Int) (hc : w.rangeAt B off (sumC s)) (h : wpListIn F m Tryd.prog ops Q rest (a.put o.dst (sumVal s)) w) : wpListIn F m Tryd.prog ops Q (o :: rest) a w := by
  obtain ⟨v, hv, hk⟩ := gives_sum_mid (o := o) (a := a) (C := fun W => W = w) (K := fun a' => a' = a.put o.dst (sumVal s)) x ho B off hx s (fun W e => by rw [e]; exact hc) rfl
  exact givesIn hF hw hd (hv w rfl) (by rw [hk]; exact h)
theorem sumIn_store (hF : F = Fence.wide.inRound l) (hw : Region.wanted o (yielded ops a.tmps) = true) (hd : noDefer o = true) (x y : Operand) (ho : o.op = .store 27 x y) (hds : o.dst = none) (B k : Nat) (hx : a.eval x = .pointer (some ⟨B, 32 * k, none⟩)) (t : List Int) (hy : a.eval y = sumVal t) (L : List (List Int)) (hl : SumsB w B L) (hk : k < L.length)
    (h : ∀ w', SumsB w' B (L.set k t) → But B w w' → w'.heap.size = w.heap.size → wpListIn F m Tryd.prog ops Q rest a w') : wpListIn F m Tryd.prog ops Q (o :: rest) a w := by
  have e := exec_sum_store x y ho B k hx t hy L hl hk
  refine wantIn (a2 := a) (w2 := w.setCells B (32 * k) (sumC t)) hF hw hd (fun K hK => ?_) (h _ (hl.set hk t) (but_setCells B _ _ w) (size_setCells B _ _ w))
  unfold Oper.wp
  rw [e]
  show K (a.put o.dst undef) _
  rw [hds]; exact hK
theorem sumIn_alloc (hF : F = Fence.wide.inRound l) (hw : Region.wanted o (yielded ops a.tmps) = true) (hd : noDefer o = true) (ho : o.op = .alloc 27) (S : Nat) (hS : w.heap.size = S)
    (h : ∀ w', SumsB w' S [nought] → Below S w w' → w'.heap.size = S + 1 → wpListIn F m Tryd.prog ops Q rest (a.put o.dst (.pointer (some ⟨S, 0, none⟩))) w') : wpListIn F m Tryd.prog ops Q (o :: rest) a w := by
  subst hS
  refine wantIn (a2 := a.put o.dst (.pointer (some ⟨w.heap.size, 0, none⟩))) (w2 := w.alloc (.cells (sumC nought).toArray 27)) hF hw hd (fun K hK => ?_) (h _ (SumsB.box w nought _) ((Below.refl _ _).alloc (Nat.le_refl _) _) (by simp))
  have e := sumZ_run w
  rw [sumVal_cells] at e
  unfold Oper.wp execOp
  simp only [ho]
  simp [go_sem, e]
  exact hK
theorem sumIn_elem (hF : F = Fence.wide.inRound l) (hw : Region.wanted o (yielded ops a.tmps) = true) (hd : noDefer o = true) (x y : Operand) (ho : o.op = .indexAddr 34 x y) (B off n cap k : Nat) (hx : a.eval x = .slice (some ⟨B, off, none⟩) n cap) (hy : a.eval y = .int .i64 k) (hk : k < n)
    (h : wpListIn F m Tryd.prog ops Q rest (a.put o.dst (.pointer (some ⟨B, off + 32 * k, none⟩))) w) : wpListIn F m Tryd.prog ops Q (o :: rest) a w :=
  givesIn hF hw hd (sum_addr x y ho B off n cap k hx hy hk w) h
theorem sumIn_elem0 (hF : F = Fence.wide.inRound l) (hw : Region.wanted o (yielded ops a.tmps) = true) (hd : noDefer o = true) (x y : Operand) (ho : o.op = .indexAddr 34 x y) (B n cap k : Nat) (hx : a.eval x = .slice (some ⟨B, 0, none⟩) n cap) (hy : a.eval y = .int .i64 k) (hk : k < n)
    (h : wpListIn F m Tryd.prog ops Q rest (a.put o.dst (.pointer (some ⟨B, 32 * k, none⟩))) w) : wpListIn F m Tryd.prog ops Q (o :: rest) a w :=
  sumIn_elem hF hw hd x y ho B 0 n cap k hx hy hk (by rw [Nat.zero_add]; exact h)
theorem wpList_sum_elem0 (hw : Region.wanted o (yielded ops a.tmps) = true) (x y : Operand) (ho : o.op = .indexAddr 34 x y) (B n cap k : Nat) (hx : a.eval x = .slice (some ⟨B, 0, none⟩) n cap) (hy : a.eval y = .int .i64 k) (hk : k < n) (h : wpList Tryd.prog ops Q rest (a.put o.dst (.pointer (some ⟨B, 32 * k, none⟩))) w) : wpList Tryd.prog ops Q (o :: rest) a w :=
  wpList_sum_elem hw x y ho B 0 n cap k hx hy hk (by rw [Nat.zero_add]; exact h)
theorem sumIn_eql (hF : F = Fence.wide.inRound l) (hw : Region.wanted o (yielded ops a.tmps) = true) (hd : noDefer o = true) (x y : Operand) (ho : o.op = .binOp .eql 27 x y 27) (c d : List Int) (hx : a.eval x = sumVal c) (hy : a.eval y = sumVal d) (v : Bool) (hv : sameSum c d = v) (h : wpListIn F m Tryd.prog ops Q rest (a.put o.dst (.bool v)) w) : wpListIn F m Tryd.prog ops Q (o :: rest) a w := by
  subst hv
  exact givesIn hF hw hd (exec_sum_eql x y ho c d hx hy w) h
end
end Go.Proofs.YtbdldnhpgpjnoaaDoor

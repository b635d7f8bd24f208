/- Lines read, boxed and appended in rounds of loops over iterators. Conditions: as each says. -/
import Derived.Test.YtlaclakndleonaaCaSame
namespace Go.Proofs.Ytlaclakndleonaa
open Go.ChangeShapes Go.WideShapes Go.ChangeAt Go.RowKit
set_option linter.unusedVariables false
section
variable {F : Fence} {m l : Nat} {ops : Array Oper} {rest : List Oper} {o : Oper} {a : Act} {w : World} {Q : Exit → Act → World → Prop}
theorem wantIn {a2 : Act} {w2 : World} (hF : F = Fence.wide.inRound l) (hw : Region.wanted o (yielded ops a.tmps) = true) (hd : noDefer o = true) (h : ∀ K : Act → World → Prop, K a2 w2 → o.wp Try.prog a w K Q) (hk : wpListIn F m Try.prog ops Q rest a2 w2) : wpListIn F m Try.prog ops Q (o :: rest) a w := by
  subst hF
  exact wpListIn_step fun K hK => by rw [if_pos hw]; exact oper_round hd (h K (hK _ _ hk))
theorem givesIn {v : Value} (hF : F = Fence.wide.inRound l) (hw : Region.wanted o (yielded ops a.tmps) = true) (hd : noDefer o = true) (hv : (execOp a.eval o).run Try.prog w = .ok (.value v) w) (h : wpListIn F m Try.prog ops Q rest (a.put o.dst v) w) : wpListIn F m Try.prog ops Q (o :: rest) a w :=
  wantIn hF hw hd (fun K hK => by unfold Oper.wp; rw [hv]; exact hK) h
theorem lineIn_load (hF : F = Fence.wide.inRound l) (hw : Region.wanted o (yielded ops a.tmps) = true) (hd : noDefer o = true) (x : Operand) (ho : o.op = .load 42 x) (B off : Nat) (hx : a.eval x = .pointer (some ⟨B, off, none⟩)) (c : LineOf) (hc : w.rangeAt B off (lineC c)) (h : wpListIn F m Try.prog ops Q rest (a.put o.dst (lineV c)) w) : wpListIn F m Try.prog ops Q (o :: rest) a w := by
  obtain ⟨v, hv, hk⟩ := gives_line_load (o := o) (a := a) (C := fun W => W = w) (K := fun a' => a' = a.put o.dst (lineV c)) x ho B off hx c (fun W e => by rw [e]; exact hc) rfl
  exact givesIn hF hw hd (hv w rfl) (by rw [hk]; exact h)
theorem lineIn_alloc (hF : F = Fence.wide.inRound l) (hw : Region.wanted o (yielded ops a.tmps) = true) (hd : noDefer o = true) (ho : o.op = .alloc 42) (S : Nat) (hS : w.heap.size = S)
    (h : wpListIn F m Try.prog ops Q rest (a.put o.dst (.pointer (some ⟨S, 0, none⟩))) (w.alloc (.cells (lineC noLine).toArray 42))) : wpListIn F m Try.prog ops Q (o :: rest) a w := by
  subst hS
  refine wantIn hF hw hd (fun K hK => ?_) h
  have e := lineZero_run w
  unfold Oper.wp execOp
  simp only [ho]
  simp [go_sem, e, lineZ]
  exact hK
theorem lineIn_store (hF : F = Fence.wide.inRound l) (hw : Region.wanted o (yielded ops a.tmps) = true) (hd : noDefer o = true) (x y : Operand) (ho : o.op = .store 42 x y) (hds : o.dst = none) (B : Nat) (hx : a.eval x = .pointer (some ⟨B, 0, none⟩)) (c old : LineOf) (hy : a.eval y = lineV c) (hB : LineBox w B old)
    (h : wpListIn F m Try.prog ops Q rest a (w.setRow B (lineC c).toArray)) : wpListIn F m Try.prog ops Q (o :: rest) a w := by
  refine wantIn (a2 := a) (w2 := w.setRow B (lineC c).toArray) hF hw hd (fun K hK => ?_) h
  exact wp_store_row 42 x y ho B _ hx hy 42 _ hB (lineA_size c) (lineA_same _ _) (lineA_one c) (by rw [hds]; exact hK)
theorem lineIn_one (hF : F = Fence.wide.inRound l) (hw : Region.wanted o (yielded ops a.tmps) = true) (hd : noDefer o = true) (x : Operand) (ho : o.op = .buildSlice 34 1 #[(0, x)]) (c : LineOf) (hx : a.eval x = lineV c)
    (h : wpListIn F m Try.prog ops Q rest (a.put o.dst (.slice (some ⟨w.heap.size, 0, none⟩) 1 1)) (w.alloc (.cells (lineC c).toArray 42))) : wpListIn F m Try.prog ops Q (o :: rest) a w := by
  refine wantIn hF hw hd (fun K hK => ?_) h
  have e := run_line1 c w
  unfold Oper.wp execOp
  simp only [ho]
  simp [hx, e]
  exact hK
theorem linesIn_append (hF : F = Fence.wide.inRound l) (hw : Region.wanted o (yielded ops a.tmps) = true) (hd : noDefer o = true) (s x : Operand) (ho : o.op = .call { callee := .builtin .append, args := #[s, x], argTypes := #[34, 34] }) (base top : Nat) (v : Value) (xs ys : List LineOf) (p : Option Addr) (n c : Nat) (hs : a.eval s = v) (hx : a.eval x = .slice p n c) (hn : n = ys.length)
    (hv : OwnL 42 131 lineC w base top v xs) (hm : RowsAt 131 lineC w p ys) (hk : xs.length + ys.length ≤ 4000000) (hbase : base ≤ w.heap.size)
    (h : ∀ v' w', OwnL 42 131 lineC w' base w'.heap.size v' (xs ++ ys) → w.grownBy w' v.ownBlock → (v'.ownBlock = v.ownBlock ∨ v'.ownBlock = some w.heap.size) → wpListIn F m Try.prog ops Q rest (a.put o.dst v') w') : wpListIn F m Try.prog ops Q (o :: rest) a w := by
  subst hn
  obtain ⟨v', w', hrun, r1, r2, r3⟩ := run_append_list elemLine o.type base top v xs ys p c hv hm hk (by decide) hbase
  refine wantIn (a2 := a.put o.dst v') (w2 := w') hF hw hd (fun K hK => ?_) (h v' w' r1 r2 r3)
  unfold Oper.wp
  simp [execOp, ho, resolve, invoke, builtin, hs, hx, hrun, Result.andThen]
  exact hK
end
end Go.Proofs.Ytlaclakndleonaa

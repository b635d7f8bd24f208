/- What stands in TreeBinds' loops. Conditions: as each says. -/
import Derived.Test.YtbdldnhpgpjnoaaDoorTrPair
namespace Go.Proofs.YtbdldnhpgpjnoaaDoor
open Go.ChangeShapes Go.WideShapes Go.ChangeAt Go.RowKit
set_option linter.unusedVariables false
structure Bd (w : World) (q0 : Option Addr) (n0 c0 TX NX OX UX Bl Bt Bu cu k : Nat) (o : List Int) (L T U : List (List Int)) (V : World) : Prop where
  kb : Bx V w.heap.size 22 (.slice q0 n0 c0)
  rb : Bx V (w.heap.size + 1) 4 (.bool false)
  tx : Bx V TX 34 (.slice (some ⟨Bt, 0, none⟩) 32 32)
  nx : Bx V NX 3 (.int .i64 (k : Nat))
  ox : SumsB V OX [o]
  ux : Bx V UX 34 (.slice (some ⟨Bu, 0, none⟩) 32 cu)
  l : SumsB V Bl L
  t : SumsB V Bt T
  u : SumsB V Bu U
  low : Below w.heap.size w V
  far : w.heap.size + 2 ≤ Bl ∧ Bl < Bt ∧ Bt < TX ∧ TX < NX ∧ NX < OX ∧ OX < Bu ∧ Bu < UX ∧ UX < V.heap.size
section
variable {w : World} {q0 : Option Addr} {n0 c0 TX NX OX UX Bl Bt Bu cu k : Nat} {o : List Int} {L T U : List (List Int)} {V V' : World}
theorem Bd.belowM {M : Nat} (h : Bd w q0 n0 c0 TX NX OX UX Bl Bt Bu cu k o L T U V) (hb : Below M V V') (hM : UX < M) : Bd w q0 n0 c0 TX NX OX UX Bl Bt Bu cu k o L T U V' := by
  obtain ⟨f1, f2, f3, f4, f5, f6, f7, f8⟩ := h.far
  exact ⟨h.kb.belowM hb (by omega), h.rb.belowM hb (by omega), h.tx.belowM hb (by omega), h.nx.belowM hb (by omega), h.ox.belowM hb (by omega), h.ux.belowM hb (by omega), h.l.belowM hb (by omega), h.t.belowM hb (by omega), h.u.belowM hb (by omega), h.low.trans (hb.mono (by omega)), f1, f2, f3, f4, f5, f6, f7, Nat.lt_of_lt_of_le f8 hb.size⟩
theorem Bd.on (h : Bd w q0 n0 c0 TX NX OX UX Bl Bt Bu cu k o L T U V) (hb : Below V.heap.size V V') : Bd w q0 n0 c0 TX NX OX UX Bl Bt Bu cu k o L T U V' := h.belowM hb h.far.2.2.2.2.2.2.2
theorem Bd.but {C : Nat} (h : Bd w q0 n0 c0 TX NX OX UX Bl Bt Bu cu k o L T U V) (hb : But C V V') (hC : UX < C) : Bd w q0 n0 c0 TX NX OX UX Bl Bt Bu cu k o L T U V' := by
  obtain ⟨f1, f2, f3, f4, f5, f6, f7, f8⟩ := h.far
  exact ⟨h.kb.but hb (by omega), h.rb.but hb (by omega), h.tx.but hb (by omega), h.nx.but hb (by omega), h.ox.but hb (by omega), h.ux.but hb (by omega), h.l.but hb (by omega), h.t.but hb (by omega), h.u.but hb (by omega), h.low.trans (hb.below (by omega) h.low.size), f1, f2, f3, f4, f5, f6, f7, Nat.lt_of_lt_of_le f8 hb.size⟩
theorem Bd.put {U' : List (List Int)} (h : Bd w q0 n0 c0 TX NX OX UX Bl Bt Bu cu k o L T U V) (hu : SumsB V' Bu U') (hb : But Bu V V') : Bd w q0 n0 c0 TX NX OX UX Bl Bt Bu cu k o L T U' V' := by
  obtain ⟨f1, f2, f3, f4, f5, f6, f7, f8⟩ := h.far
  exact ⟨h.kb.but hb (by omega), h.rb.but hb (by omega), h.tx.but hb (by omega), h.nx.but hb (by omega), h.ox.but hb (by omega), h.ux.but hb (by omega), h.l.but hb (by omega), h.t.but hb (by omega), hu, h.low.trans (hb.below (by omega) h.low.size), f1, f2, f3, f4, f5, f6, f7, Nat.lt_of_lt_of_le f8 hb.size⟩
end
theorem own_sums32 {w : World} {base top : Nat} {v : Value} {l : List (List Int)} (h : OwnL 27 32 sumC w base top v l) (hl : l.length = 32) : ∃ B c, v = .slice (some ⟨B, 0, none⟩) 32 c ∧ base ≤ B ∧ B < top ∧ SumsB w B l := by
  obtain ⟨x, m, e⟩ : ∃ x m, l = x :: m := by
    cases l with
    | nil => exact absurd hl (by simp)
    | cons x m => exact ⟨x, m, rfl⟩
  rw [e] at h
  obtain ⟨B, c, rfl, hc, h1, h2, hs⟩ := h.sums
  rw [← e] at hs ⊢
  exact ⟨B, c, by rw [hl], h1, h2, hs⟩
theorem own_sumsAny {w : World} {base top B n c : Nat} {l : List (List Int)} (h : OwnL 27 32 sumC w base top (.slice (some ⟨B, 0, none⟩) n c) l) : l.length = 0 ∨ (base ≤ B ∧ SumsB w B l) := by
  cases l with
  | nil => exact .inl rfl
  | cons x m =>
    obtain ⟨B', c', e, hc, h1, h2, hs⟩ := h.sums
    cases e
    exact .inr ⟨h1, hs⟩
theorem aft_below {B : Nat} {V w w' : World} (h : Aft B V w) (hb : Below w.heap.size w w') : Aft B V w' := h.call hb
theorem aft_but {B C : Nat} {V w w' : World} (h : Aft B V w) (hb : But C w w') (hC : C < B ∨ V.heap.size ≤ C) : Aft B V w' :=
  ⟨Nat.le_trans h.size hb.size, fun k hk hi => (hb.same k (Nat.lt_of_lt_of_le hi h.size) (by omega)).trans (h.same k hk hi)⟩
section
variable {F : Fence} {m l : Nat} {ops : Array Oper} {rest : List Oper} {o : Oper} {a : Act} {w : World} {Q : Exit → Act → World → Prop}
theorem boolIn_store (hF : F = Fence.wide.inRound l) (hw : Region.wanted o (yielded ops a.tmps) = true) (hd : noDefer o = true) (x y : Operand) (ho : o.op = .store 4 x y) (hds : o.dst = none) (B : Nat) (hx : a.eval x = .pointer (some ⟨B, 0, none⟩)) (z : Bool) (hy : a.eval y = .bool z) (t : TypeId) (u : Value) (hB : Bx w B t u)
    (h : ∀ w', Bx w' B t (.bool z) → But B w w' → w'.heap.size = w.heap.size → wpListIn F m Tryd.prog ops Q rest a w') : wpListIn F m Tryd.prog ops Q (o :: rest) a w := by
  refine wantIn (a2 := a) (w2 := w.setCell ⟨B, 0, none⟩ (.bool z)) hF hw hd (fun K hK => ?_) (h (w.setCell ⟨B, 0, none⟩ (.bool z)) (hB.set _) (But.setCell B 0 w _) (size_setCell _ _ _))
  have c1 := hB.cell; have f1 := hB.free
  unfold Oper.wp execOp
  simp only [ho, hx, hy]
  simp [go_sem, c1, f1]
  simpa [hds] using hK
end
end Go.Proofs.YtbdldnhpgpjnoaaDoor

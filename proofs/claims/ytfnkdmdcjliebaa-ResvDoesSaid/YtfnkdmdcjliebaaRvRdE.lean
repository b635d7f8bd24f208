/- The contract of the document's Do, whole. Conditions: the registrations lie in memory, at most 1000. -/
import Derived.Test.YtfnkdmdcjliebaaRvRdC
import Derived.Test.YtfnkdmdcjliebaaRvRdD
namespace Go.Proofs.Ytfnkdmdcjliebaa
open Go.ChangeShapes Go.WideShapes Go.ChangeAt Go.RowKit
set_option linter.unusedVariables false
set_option linter.unusedSimpArgs false
theorem refDo_any {w : World} {q : Option Addr} {n c : Nat} {r : ResvOf} (hq : RvAt w q n c r) (o : ROp) :
    Calls Try.prog 11 #[.agg (resvA q n c r), .agg (ropA o)] w (RefPost w (doR r o).1 (doR r o).2) := by
  cases hg : goodR r with
  | false => rw [do_bad (.inl hg)]; exact refDo_bad hq (.inl hg)
  | true =>
    cases hw : wellR o with
    | false => rw [do_bad (.inr hw)]; exact refDo_bad hq (.inr hw)
    | true =>
      obtain ⟨w1, w2, w3, w4, w5, w6⟩ := well_says (by rw [hw]; rfl : (!(wellR o)) = false)
      have b1 : ¬ o.who < 0 := by omega
      have b2 : ¬ o.key < 0 := by omega
      have b3 : ¬ o.new < 0 := by omega
      have ty : (o.op = 2 ∨ o.op = 3 ∨ o.op = 5) → ¬ o.ty < 1 ∧ ¬ 6 < o.ty := fun h => by
        have := w6 (by unfold needsR; rcases h with h | h | h <;> rw [h] <;> rfl)
        omega
      obtain h | h | h : (o.op = 1 ∨ o.op = 6) ∨ o.op = 5 ∨ (2 ≤ o.op ∧ o.op ≤ 4) := by omega
      · by_cases hk : o.op = 1 ∧ keyR r.regs o.who ≠ o.key
        · rw [dr_1c hg hw hk.1 hk.2]
          exact rd_conf1 hq hk.1 hg b1 b2 b3 hk.2
        · have hr : (o.op = 1 ∧ keyR r.regs o.who = o.key) ∨ o.op = 6 := by
            rcases h with h | h
            · exact .inl ⟨h, by by_cases e : keyR r.regs o.who = o.key; exact e; exact absurd ⟨h, e⟩ hk⟩
            · exact .inr h
          rw [dr_reg hg hw hr]
          by_cases hn : 0 < o.new
          · rw [if_pos hn]
            by_cases h4 : (withL r.regs o.who o.new false).length ≤ 4
            · rw [if_pos h4]
              rcases hr with ⟨h, hk⟩ | h
              · exact rd_new1 hq h hg b1 b2 b3 hk hn h4
              · exact rd_new6 hq h hg b1 b2 b3 hn h4
            · rw [if_neg h4]
              rcases hr with ⟨h, hk⟩ | h
              · exact rd_full1 hq h hg b1 b2 b3 hk hn h4
              · exact rd_full6 hq h hg b1 b2 b3 hn h4
          · rw [if_neg hn]
            rcases hr with ⟨h, hk⟩ | h
            · exact rd_ends1 hq h hg b1 b2 b3 hk hn
            · exact rd_ends6 hq h hg b1 b2 b3 hn
      · obtain ⟨t1, t2⟩ := ty (.inr (.inr h))
        by_cases k0 : keyR r.regs o.who = 0
        · rw [dr_own hg hw (by omega) (by omega) (.inl k0)]
          exact rd_none5 hq h hg b1 b2 b3 t1 t2 k0
        by_cases k1 : keyR r.regs o.who = o.key
        · have hd := dr_go hg hw (by omega) (by omega) k0 k1
          rw [show (o.op == 2) = false by rw [h]; rfl, show (o.op == 3) = false by rw [h]; rfl, show (o.op == 4) = false by rw [h]; rfl] at hd
          simp only [Bool.false_eq_true, if_false] at hd
          exact rd_5 hq h hg b1 b2 b3 t1 t2 k0 k1 hd
        · rw [dr_own hg hw (by omega) (by omega) (.inr k1)]
          exact rd_conf5 hq h hg b1 b2 b3 t1 t2 k0 k1
      · obtain h | h | h : o.op = 2 ∨ o.op = 3 ∨ o.op = 4 := by omega
        · obtain ⟨t1, t2⟩ := ty (.inl h)
          by_cases k0 : keyR r.regs o.who = 0
          · rw [dr_own hg hw (by omega) (by omega) (.inl k0)]
            exact rd_none2 hq h hg b1 b2 b3 t1 t2 k0
          by_cases k1 : keyR r.regs o.who = o.key
          · rw [dr_go hg hw (by omega) (by omega) k0 k1, show (o.op == 2) = true by rw [h]; rfl, if_pos rfl]
            by_cases hh : r.h = -1
            · rw [if_pos (by simpa using hh)]
              exact rd_take2 hq h hg b1 b2 b3 t1 t2 k0 k1 hh
            · rw [if_neg (by simpa using hh)]
              cases hho : holdsR r o.who with
              | false => exact rd_not2 hq h hg b1 b2 b3 t1 t2 k0 k1 hh hho
              | true =>
                by_cases ht : r.t = o.ty
                · rw [if_pos (by simpa using ht)]
                  exact rd_held2 hq h hg b1 b2 b3 t1 t2 k0 k1 hh hho ht
                · rw [if_neg (by simpa using ht)]
                  exact rd_type2 hq h hg b1 b2 b3 t1 t2 k0 k1 hh hho ht
          · rw [dr_own hg hw (by omega) (by omega) (.inr k1)]
            exact rd_conf2 hq h hg b1 b2 b3 t1 t2 k0 k1
        · obtain ⟨t1, t2⟩ := ty (.inr (.inl h))
          by_cases k0 : keyR r.regs o.who = 0
          · rw [dr_own hg hw (by omega) (by omega) (.inl k0)]
            exact rd_none3 hq h hg b1 b2 b3 t1 t2 k0
          by_cases k1 : keyR r.regs o.who = o.key
          · rw [dr_go hg hw (by omega) (by omega) k0 k1, show (o.op == 2) = false by rw [h]; rfl, show (o.op == 3) = true by rw [h]; rfl]
            simp only [Bool.false_eq_true, if_false, if_true]
            cases hho : holdsR r o.who with
            | false => exact rd_not3 hq h hg b1 b2 b3 t1 t2 k0 k1 hho
            | true =>
              by_cases ht : r.t = o.ty
              · have e : (r.t == o.ty) = true := by simpa using ht
                rw [e]
                exact rd_free3 hq h hg b1 b2 b3 t1 t2 k0 k1 hho ht
              · have e : (r.t == o.ty) = false := by simpa using ht
                rw [e]
                exact rd_type3 hq h hg b1 b2 b3 t1 t2 k0 k1 hho ht
          · rw [dr_own hg hw (by omega) (by omega) (.inr k1)]
            exact rd_conf3 hq h hg b1 b2 b3 t1 t2 k0 k1
        · by_cases k0 : keyR r.regs o.who = 0
          · rw [dr_own hg hw (by omega) (by omega) (.inl k0)]
            exact rd_none4 hq h hg b1 b2 b3 k0
          by_cases k1 : keyR r.regs o.who = o.key
          · rw [dr_go hg hw (by omega) (by omega) k0 k1, show (o.op == 2) = false by rw [h]; rfl, show (o.op == 3) = false by rw [h]; rfl, show (o.op == 4) = true by rw [h]; rfl]
            exact rd_clear4 hq h hg b1 b2 b3 k0 k1
          · rw [dr_own hg hw (by omega) (by omega) (.inr k1)]
            exact rd_conf4 hq h hg b1 b2 b3 k0 k1
end Go.Proofs.Ytfnkdmdcjliebaa

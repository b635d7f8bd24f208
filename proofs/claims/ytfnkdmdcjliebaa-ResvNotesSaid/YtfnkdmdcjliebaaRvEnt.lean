/- The contracts of the program's inForm and entitled. Conditions: the reservations lie in memory, in form; the operation in form. -/
import Derived.Test.YtfnkdmdcjliebaaRvRunP
namespace Go.Proofs.Ytfnkdmdcjliebaa
open Go.ChangeShapes Go.WideShapes Go.ChangeAt Go.RowKit
set_option linter.unusedVariables false
set_option linter.unusedSimpArgs false
theorem well_low {o : ROp} (h : o.who < 0 ∨ o.key < 0 ∨ o.new < 0) : wellR o = false := by
  unfold wellR
  rcases h with h | h | h
  · rw [decide_eq_false (show ¬ 0 ≤ o.who by omega)]; simp
  · rw [decide_eq_false (show ¬ 0 ≤ o.key by omega)]; simp
  · rw [decide_eq_false (show ¬ 0 ≤ o.new by omega)]; simp
theorem well_plain {o : ROp} (h1 : 0 ≤ o.who) (h2 : 0 ≤ o.key) (h3 : 0 ≤ o.new) (h : o.op = 1 ∨ o.op = 6 ∨ o.op = 4) : wellR o = true := by
  unfold wellR needsR
  rw [decide_eq_true h1, decide_eq_true h2, decide_eq_true h3]
  rcases h with h | h | h <;> rw [h] <;> rfl
theorem well_typed {o : ROp} (h1 : 0 ≤ o.who) (h2 : 0 ≤ o.key) (h3 : 0 ≤ o.new) (h : o.op = 2 ∨ o.op = 3 ∨ o.op = 5) : wellR o = (decide (1 ≤ o.ty) && decide (o.ty ≤ 6)) := by
  unfold wellR needsR
  rw [decide_eq_true h1, decide_eq_true h2, decide_eq_true h3]
  rcases h with h | h | h <;> rw [h] <;> rfl
theorem well_none {o : ROp} (h : o.op < 1 ∨ 6 < o.op) : wellR o = false := by
  unfold wellR
  rcases h with h | h
  · rw [decide_eq_false (show ¬ 1 ≤ o.op by omega)]; rfl
  · rw [decide_eq_false (show ¬ o.op ≤ 6 by omega), Bool.and_false]; rfl
theorem ent_6 {r : ResvOf} {o : ROp} (h : o.op = 6) : entR r o = true := by unfold entR; rw [h]; rfl
theorem ent_1 {r : ResvOf} {o : ROp} (h : o.op = 1) : entR r o = (keyR r.regs o.who == o.key) := by unfold entR; rw [h]; rfl
theorem ent_2 {r : ResvOf} {o : ROp} (h : o.op = 2) : entR r o = ((inR r.regs o.who && (r.h == -1 || (holdsR r o.who && o.ty == r.t))) && keyR r.regs o.who == o.key) := by unfold entR; rw [h]; rfl
theorem ent_5 {r : ResvOf} {o : ROp} (h : o.op = 5) : entR r o = ((inR r.regs o.who && (decide ((r.regs.filter fun p => !(goneF o p)).length < r.regs.length) || hasR r o.new)) && keyR r.regs o.who == o.key) := by unfold entR; rw [h]; rfl
theorem ent_34 {r : ResvOf} {o : ROp} (h : o.op = 3 ∨ o.op = 4) : entR r o = (inR r.regs o.who && keyR r.regs o.who == o.key) := by unfold entR; rcases h with h | h <;> rw [h] <;> rfl
attribute [local irreducible] regC atR keyR inR risesR formR allR holdersR holdsR allowedR goneF hasR selfF withL PB endP errN runP regP releaseP reserveP preemptP wellR entR
attribute [local go_sem] Oper.semAt_some
theorem inForm_low (w : World) (o : ROp) (h : o.who < 0 ∨ o.key < 0 ∨ o.new < 0) : Calls Try.prog 29 #[.agg (ropA o)] w fun e w' => e = .returned (.bool false) ∧ Below w.heap.size w w' := by
  by_cases h1 : o.who < 0
  · go_enter Try.func29, Try.ntmps29
    go_wp2_with (first
      | (with_reducible show wpList _ _ _ (⟨_, Op.box roT _, _, _, _, none⟩ :: _) _ _
         refine wpList_boxA_of rfl _ rfl (ropA o) rfl ?_
         intro w1 x1 l1 s1
         obtain ⟨d0, d1, d2, d3, d4, d5⟩ := boxRo x1
         skip
         have L1 := Lib.hid l1
         clear x1 l1 s1))
    go_ret
    exact ⟨rfl, L1.out⟩
  · by_cases h2 : o.key < 0
    · go_enter Try.func29, Try.ntmps29
      go_wp2_with (first
        | (with_reducible show wpList _ _ _ (⟨_, Op.box roT _, _, _, _, none⟩ :: _) _ _
           refine wpList_boxA_of rfl _ rfl (ropA o) rfl ?_
           intro w1 x1 l1 s1
           obtain ⟨d0, d1, d2, d3, d4, d5⟩ := boxRo x1
           skip
           have L1 := Lib.hid l1
           clear x1 l1 s1))
      go_ret
      exact ⟨rfl, L1.out⟩
    · have h3 : o.new < 0 := by omega
      go_enter Try.func29, Try.ntmps29
      go_wp2_with (first
        | (with_reducible show wpList _ _ _ (⟨_, Op.box roT _, _, _, _, none⟩ :: _) _ _
           refine wpList_boxA_of rfl _ rfl (ropA o) rfl ?_
           intro w1 x1 l1 s1
           obtain ⟨d0, d1, d2, d3, d4, d5⟩ := boxRo x1
           skip
           have L1 := Lib.hid l1
           clear x1 l1 s1))
      go_ret
      exact ⟨rfl, L1.out⟩
theorem inForm_1 (w : World) (o : ROp) (h1 : ¬ o.who < 0) (h2 : ¬ o.key < 0) (h3 : ¬ o.new < 0) (hop : o.op = 1) : Calls Try.prog 29 #[.agg (ropA o)] w fun e w' => e = .returned (.bool true) ∧ Below w.heap.size w w' := by
  have HP := Lib.hid hop
  clear hop
  go_enter Try.func29, Try.ntmps29
  go_wp2_with (first
    | (with_reducible show wpList _ _ _ (⟨_, Op.box roT _, _, _, _, none⟩ :: _) _ _
       refine wpList_boxA_of rfl _ rfl (ropA o) rfl ?_
       intro w1 x1 l1 s1
       obtain ⟨d0, d1, d2, d3, d4, d5⟩ := boxRo x1
       rw [HP.out] at d0
       have L1 := Lib.hid l1
       clear x1 l1 s1))
  go_ret
  exact ⟨rfl, L1.out⟩
theorem inForm_6 (w : World) (o : ROp) (h1 : ¬ o.who < 0) (h2 : ¬ o.key < 0) (h3 : ¬ o.new < 0) (hop : o.op = 6) : Calls Try.prog 29 #[.agg (ropA o)] w fun e w' => e = .returned (.bool true) ∧ Below w.heap.size w w' := by
  have HP := Lib.hid hop
  clear hop
  go_enter Try.func29, Try.ntmps29
  go_wp2_with (first
    | (with_reducible show wpList _ _ _ (⟨_, Op.box roT _, _, _, _, none⟩ :: _) _ _
       refine wpList_boxA_of rfl _ rfl (ropA o) rfl ?_
       intro w1 x1 l1 s1
       obtain ⟨d0, d1, d2, d3, d4, d5⟩ := boxRo x1
       rw [HP.out] at d0
       have L1 := Lib.hid l1
       clear x1 l1 s1))
  go_ret
  exact ⟨rfl, L1.out⟩
theorem inForm_4 (w : World) (o : ROp) (h1 : ¬ o.who < 0) (h2 : ¬ o.key < 0) (h3 : ¬ o.new < 0) (hop : o.op = 4) : Calls Try.prog 29 #[.agg (ropA o)] w fun e w' => e = .returned (.bool true) ∧ Below w.heap.size w w' := by
  have HP := Lib.hid hop
  clear hop
  go_enter Try.func29, Try.ntmps29
  go_wp2_with (first
    | (with_reducible show wpList _ _ _ (⟨_, Op.box roT _, _, _, _, none⟩ :: _) _ _
       refine wpList_boxA_of rfl _ rfl (ropA o) rfl ?_
       intro w1 x1 l1 s1
       obtain ⟨d0, d1, d2, d3, d4, d5⟩ := boxRo x1
       rw [HP.out] at d0
       have L1 := Lib.hid l1
       clear x1 l1 s1))
  go_ret
  exact ⟨rfl, L1.out⟩
theorem inForm_2 (w : World) (o : ROp) (h1 : ¬ o.who < 0) (h2 : ¬ o.key < 0) (h3 : ¬ o.new < 0) (hop : o.op = 2) : Calls Try.prog 29 #[.agg (ropA o)] w fun e w' => e = .returned (.bool (decide (1 ≤ o.ty) && decide (o.ty ≤ 6))) ∧ Below w.heap.size w w' := by
  have HP := Lib.hid hop
  clear hop
  have HT := Lib.hid (fun W => isType_any o.ty W)
  generalize (decide (1 ≤ o.ty) && decide (o.ty ≤ 6)) = b at *
  go_enter Try.func29, Try.ntmps29
  go_wp2_with (first
    | (with_reducible show wpList _ _ _ (⟨_, Op.box roT _, _, _, _, none⟩ :: _) _ _
       refine wpList_boxA_of rfl _ rfl (ropA o) rfl ?_
       intro w1 x1 l1 s1
       obtain ⟨d0, d1, d2, d3, d4, d5⟩ := boxRo x1
       rw [HP.out] at d0
       have L1 := Lib.hid l1
       clear x1 l1 s1)
    | (go_at_call 48
       refine (HT.out _).mono ?_; rintro e w2 ⟨rfl, rfl⟩))
  go_ret
  exact ⟨rfl, L1.out⟩
theorem inForm_3 (w : World) (o : ROp) (h1 : ¬ o.who < 0) (h2 : ¬ o.key < 0) (h3 : ¬ o.new < 0) (hop : o.op = 3) : Calls Try.prog 29 #[.agg (ropA o)] w fun e w' => e = .returned (.bool (decide (1 ≤ o.ty) && decide (o.ty ≤ 6))) ∧ Below w.heap.size w w' := by
  have HP := Lib.hid hop
  clear hop
  have HT := Lib.hid (fun W => isType_any o.ty W)
  generalize (decide (1 ≤ o.ty) && decide (o.ty ≤ 6)) = b at *
  go_enter Try.func29, Try.ntmps29
  go_wp2_with (first
    | (with_reducible show wpList _ _ _ (⟨_, Op.box roT _, _, _, _, none⟩ :: _) _ _
       refine wpList_boxA_of rfl _ rfl (ropA o) rfl ?_
       intro w1 x1 l1 s1
       obtain ⟨d0, d1, d2, d3, d4, d5⟩ := boxRo x1
       rw [HP.out] at d0
       have L1 := Lib.hid l1
       clear x1 l1 s1)
    | (go_at_call 48
       refine (HT.out _).mono ?_; rintro e w2 ⟨rfl, rfl⟩))
  go_ret
  exact ⟨rfl, L1.out⟩
theorem inForm_5 (w : World) (o : ROp) (h1 : ¬ o.who < 0) (h2 : ¬ o.key < 0) (h3 : ¬ o.new < 0) (hop : o.op = 5) : Calls Try.prog 29 #[.agg (ropA o)] w fun e w' => e = .returned (.bool (decide (1 ≤ o.ty) && decide (o.ty ≤ 6))) ∧ Below w.heap.size w w' := by
  have HP := Lib.hid hop
  clear hop
  have HT := Lib.hid (fun W => isType_any o.ty W)
  generalize (decide (1 ≤ o.ty) && decide (o.ty ≤ 6)) = b at *
  go_enter Try.func29, Try.ntmps29
  go_wp2_with (first
    | (with_reducible show wpList _ _ _ (⟨_, Op.box roT _, _, _, _, none⟩ :: _) _ _
       refine wpList_boxA_of rfl _ rfl (ropA o) rfl ?_
       intro w1 x1 l1 s1
       obtain ⟨d0, d1, d2, d3, d4, d5⟩ := boxRo x1
       rw [HP.out] at d0
       have L1 := Lib.hid l1
       clear x1 l1 s1)
    | (go_at_call 48
       refine (HT.out _).mono ?_; rintro e w2 ⟨rfl, rfl⟩))
  go_ret
  exact ⟨rfl, L1.out⟩
theorem inForm_none (w : World) (o : ROp) (h1 : ¬ o.who < 0) (h2 : ¬ o.key < 0) (h3 : ¬ o.new < 0) (hop : o.op < 1 ∨ 6 < o.op) : Calls Try.prog 29 #[.agg (ropA o)] w fun e w' => e = .returned (.bool false) ∧ Below w.heap.size w w' := by
  have g1 : (o.op == 1) = false := beq_eq_false_iff_ne.2 (by omega)
  have g2 : (o.op == 2) = false := beq_eq_false_iff_ne.2 (by omega)
  have g3 : (o.op == 3) = false := beq_eq_false_iff_ne.2 (by omega)
  have g4 : (o.op == 4) = false := beq_eq_false_iff_ne.2 (by omega)
  have g5 : (o.op == 5) = false := beq_eq_false_iff_ne.2 (by omega)
  have g6 : (o.op == 6) = false := beq_eq_false_iff_ne.2 (by omega)
  clear hop
  go_enter Try.func29, Try.ntmps29
  go_wp2_with (first
    | (with_reducible show wpList _ _ _ (⟨_, Op.box roT _, _, _, _, none⟩ :: _) _ _
       refine wpList_boxA_of rfl _ rfl (ropA o) rfl ?_
       intro w1 x1 l1 s1
       obtain ⟨d0, d1, d2, d3, d4, d5⟩ := boxRo x1
       skip
       have L1 := Lib.hid l1
       clear x1 l1 s1))
  go_ret
  exact ⟨rfl, L1.out⟩
theorem inForm_any (w : World) (o : ROp) : Calls Try.prog 29 #[.agg (ropA o)] w fun e w' => e = .returned (.bool (wellR o)) ∧ Below w.heap.size w w' := by
  by_cases hl : o.who < 0 ∨ o.key < 0 ∨ o.new < 0
  · rw [well_low hl]; exact inForm_low w o hl
  · have h1 : ¬ o.who < 0 := by omega
    have h2 : ¬ o.key < 0 := by omega
    have h3 : ¬ o.new < 0 := by omega
    obtain h | h | h | h | h | h | h : o.op = 1 ∨ o.op = 6 ∨ o.op = 4 ∨ o.op = 2 ∨ o.op = 3 ∨ o.op = 5 ∨ (o.op < 1 ∨ 6 < o.op) := by omega
    · rw [well_plain (by omega) (by omega) (by omega) (.inl h)]; exact inForm_1 w o h1 h2 h3 h
    · rw [well_plain (by omega) (by omega) (by omega) (.inr (.inl h))]; exact inForm_6 w o h1 h2 h3 h
    · rw [well_plain (by omega) (by omega) (by omega) (.inr (.inr h))]; exact inForm_4 w o h1 h2 h3 h
    · rw [well_typed (by omega) (by omega) (by omega) (.inl h)]; exact inForm_2 w o h1 h2 h3 h
    · rw [well_typed (by omega) (by omega) (by omega) (.inr (.inl h))]; exact inForm_3 w o h1 h2 h3 h
    · rw [well_typed (by omega) (by omega) (by omega) (.inr (.inr h))]; exact inForm_5 w o h1 h2 h3 h
    · rw [well_none h]; exact inForm_none w o h1 h2 h3 h
set_option maxRecDepth 100000 in
set_option maxHeartbeats 8000000 in
theorem entitled_6 {w : World} {q : Option Addr} {n c : Nat} {r : ResvOf} (hq : RvAt w q n c r) (hg : GoodR r) {o : ROp} (hop : o.op = 6) :
    Calls Try.prog 31 #[.agg (resvA q n c r), .agg (ropA o)] w fun e w' => e = .returned (.bool (entR r o)) ∧ Below w.heap.size w w' := by
  have HK := Lib.hid (fun (W : World) (hb : Below w.heap.size w W) => keyOf_any (c := c) (RowsAt.below hq.at_ hb) hq.len hq.few o.who)
  have HP := Lib.hid hop
  rw [ent_6 hop]
  clear hq hg hop
  go_enter Try.func31, Try.ntmps31
  go_wp2_with (first
    | (with_reducible show wpList _ _ _ (⟨_, Op.box rvT _, _, _, _, none⟩ :: _) _ _
       refine wpList_boxA_of rfl _ rfl (resvA q n c r) rfl ?_
       intro w1 x1 l1 s1
       have X1 := Lib.hid x1
       have L1 := Lib.hid l1
       have S1 := Lib.hid s1
       clear x1 l1 s1)
    | (with_reducible show wpList _ _ _ (⟨_, Op.box roT _, _, _, _, none⟩ :: _) _ _
       refine wpList_boxA_of rfl _ rfl (ropA o) rfl ?_
       intro w2 x2 l2 s2
       rw [S1.out] at x2 s2
       rw [S1.out]
       obtain ⟨d0, d1, d2, d3, d4, d5⟩ := boxRo x2
       rw [HP.out] at d0
       have X2 := Lib.hid x2
       have Y2 := Lib.hid (X1.out.keep (l2.block _ X1.out.lt))
       obtain ⟨c0, c1, c2, c3, c4⟩ := boxRv Y2.out
       have L2 := Lib.hid (L1.out.trans (l2.mono L1.out.size))
       clear x2 l2 s2 X1 L1 S1)
    | (go_at_call 49
       refine (HK.out _ L2.out).mono ?_; rintro e w3 ⟨rfl, rfl⟩))
  go_ret
  exact ⟨rfl, L2.out⟩
set_option maxRecDepth 100000 in
set_option maxHeartbeats 8000000 in
theorem entitled_1 {w : World} {q : Option Addr} {n c : Nat} {r : ResvOf} (hq : RvAt w q n c r) (hg : GoodR r) {o : ROp} (hop : o.op = 1) :
    Calls Try.prog 31 #[.agg (resvA q n c r), .agg (ropA o)] w fun e w' => e = .returned (.bool (entR r o)) ∧ Below w.heap.size w w' := by
  have HK := Lib.hid (fun (W : World) (hb : Below w.heap.size w W) => keyOf_any (c := c) (RowsAt.below hq.at_ hb) hq.len hq.few o.who)
  have HP := Lib.hid hop
  rw [ent_1 hop]
  clear hq hg hop
  generalize keyR r.regs o.who = x at *
  go_enter Try.func31, Try.ntmps31
  go_wp2_with (first
    | (with_reducible show wpList _ _ _ (⟨_, Op.box rvT _, _, _, _, none⟩ :: _) _ _
       refine wpList_boxA_of rfl _ rfl (resvA q n c r) rfl ?_
       intro w1 x1 l1 s1
       have X1 := Lib.hid x1
       have L1 := Lib.hid l1
       have S1 := Lib.hid s1
       clear x1 l1 s1)
    | (with_reducible show wpList _ _ _ (⟨_, Op.box roT _, _, _, _, none⟩ :: _) _ _
       refine wpList_boxA_of rfl _ rfl (ropA o) rfl ?_
       intro w2 x2 l2 s2
       rw [S1.out] at x2 s2
       rw [S1.out]
       obtain ⟨d0, d1, d2, d3, d4, d5⟩ := boxRo x2
       rw [HP.out] at d0
       have X2 := Lib.hid x2
       have Y2 := Lib.hid (X1.out.keep (l2.block _ X1.out.lt))
       obtain ⟨c0, c1, c2, c3, c4⟩ := boxRv Y2.out
       have L2 := Lib.hid (L1.out.trans (l2.mono L1.out.size))
       clear x2 l2 s2 X1 L1 S1)
    | (go_at_call 49
       refine (HK.out _ L2.out).mono ?_; rintro e w3 ⟨rfl, rfl⟩))
  go_ret
  exact ⟨rfl, L2.out⟩
set_option maxRecDepth 100000 in
set_option maxHeartbeats 8000000 in
theorem entitled_3 {w : World} {q : Option Addr} {n c : Nat} {r : ResvOf} (hq : RvAt w q n c r) (hg : GoodR r) {o : ROp} (hop : o.op = 3) :
    Calls Try.prog 31 #[.agg (resvA q n c r), .agg (ropA o)] w fun e w' => e = .returned (.bool (entR r o)) ∧ Below w.heap.size w w' := by
  have HK := Lib.hid (fun (W : World) (hb : Below w.heap.size w W) => keyOf_any (c := c) (RowsAt.below hq.at_ hb) hq.len hq.few o.who)
  have HP := Lib.hid hop
  rw [ent_34 (.inl hop)]
  clear hq hg hop
  generalize keyR r.regs o.who = x at *
  cases hin : inR r.regs o.who with
  | true =>
    rw [hin] at HK
    go_enter Try.func31, Try.ntmps31
    go_wp2_with (first
    | (with_reducible show wpList _ _ _ (⟨_, Op.box rvT _, _, _, _, none⟩ :: _) _ _
       refine wpList_boxA_of rfl _ rfl (resvA q n c r) rfl ?_
       intro w1 x1 l1 s1
       have X1 := Lib.hid x1
       have L1 := Lib.hid l1
       have S1 := Lib.hid s1
       clear x1 l1 s1)
    | (with_reducible show wpList _ _ _ (⟨_, Op.box roT _, _, _, _, none⟩ :: _) _ _
       refine wpList_boxA_of rfl _ rfl (ropA o) rfl ?_
       intro w2 x2 l2 s2
       rw [S1.out] at x2 s2
       rw [S1.out]
       obtain ⟨d0, d1, d2, d3, d4, d5⟩ := boxRo x2
       rw [HP.out] at d0
       have X2 := Lib.hid x2
       have Y2 := Lib.hid (X1.out.keep (l2.block _ X1.out.lt))
       obtain ⟨c0, c1, c2, c3, c4⟩ := boxRv Y2.out
       have L2 := Lib.hid (L1.out.trans (l2.mono L1.out.size))
       clear x2 l2 s2 X1 L1 S1)
    | (go_at_call 49
       refine (HK.out _ L2.out).mono ?_; rintro e w3 ⟨rfl, rfl⟩))
    go_ret
    exact ⟨rfl, L2.out⟩
  | false =>
    rw [hin] at HK
    go_enter Try.func31, Try.ntmps31
    go_wp2_with (first
    | (with_reducible show wpList _ _ _ (⟨_, Op.box rvT _, _, _, _, none⟩ :: _) _ _
       refine wpList_boxA_of rfl _ rfl (resvA q n c r) rfl ?_
       intro w1 x1 l1 s1
       have X1 := Lib.hid x1
       have L1 := Lib.hid l1
       have S1 := Lib.hid s1
       clear x1 l1 s1)
    | (with_reducible show wpList _ _ _ (⟨_, Op.box roT _, _, _, _, none⟩ :: _) _ _
       refine wpList_boxA_of rfl _ rfl (ropA o) rfl ?_
       intro w2 x2 l2 s2
       rw [S1.out] at x2 s2
       rw [S1.out]
       obtain ⟨d0, d1, d2, d3, d4, d5⟩ := boxRo x2
       rw [HP.out] at d0
       have X2 := Lib.hid x2
       have Y2 := Lib.hid (X1.out.keep (l2.block _ X1.out.lt))
       obtain ⟨c0, c1, c2, c3, c4⟩ := boxRv Y2.out
       have L2 := Lib.hid (L1.out.trans (l2.mono L1.out.size))
       clear x2 l2 s2 X1 L1 S1)
    | (go_at_call 49
       refine (HK.out _ L2.out).mono ?_; rintro e w3 ⟨rfl, rfl⟩))
    go_ret
    exact ⟨rfl, L2.out⟩
set_option maxRecDepth 100000 in
set_option maxHeartbeats 8000000 in
theorem entitled_4 {w : World} {q : Option Addr} {n c : Nat} {r : ResvOf} (hq : RvAt w q n c r) (hg : GoodR r) {o : ROp} (hop : o.op = 4) :
    Calls Try.prog 31 #[.agg (resvA q n c r), .agg (ropA o)] w fun e w' => e = .returned (.bool (entR r o)) ∧ Below w.heap.size w w' := by
  have HK := Lib.hid (fun (W : World) (hb : Below w.heap.size w W) => keyOf_any (c := c) (RowsAt.below hq.at_ hb) hq.len hq.few o.who)
  have HP := Lib.hid hop
  rw [ent_34 (.inr hop)]
  clear hq hg hop
  generalize keyR r.regs o.who = x at *
  cases hin : inR r.regs o.who with
  | true =>
    rw [hin] at HK
    go_enter Try.func31, Try.ntmps31
    go_wp2_with (first
    | (with_reducible show wpList _ _ _ (⟨_, Op.box rvT _, _, _, _, none⟩ :: _) _ _
       refine wpList_boxA_of rfl _ rfl (resvA q n c r) rfl ?_
       intro w1 x1 l1 s1
       have X1 := Lib.hid x1
       have L1 := Lib.hid l1
       have S1 := Lib.hid s1
       clear x1 l1 s1)
    | (with_reducible show wpList _ _ _ (⟨_, Op.box roT _, _, _, _, none⟩ :: _) _ _
       refine wpList_boxA_of rfl _ rfl (ropA o) rfl ?_
       intro w2 x2 l2 s2
       rw [S1.out] at x2 s2
       rw [S1.out]
       obtain ⟨d0, d1, d2, d3, d4, d5⟩ := boxRo x2
       rw [HP.out] at d0
       have X2 := Lib.hid x2
       have Y2 := Lib.hid (X1.out.keep (l2.block _ X1.out.lt))
       obtain ⟨c0, c1, c2, c3, c4⟩ := boxRv Y2.out
       have L2 := Lib.hid (L1.out.trans (l2.mono L1.out.size))
       clear x2 l2 s2 X1 L1 S1)
    | (go_at_call 49
       refine (HK.out _ L2.out).mono ?_; rintro e w3 ⟨rfl, rfl⟩))
    go_ret
    exact ⟨rfl, L2.out⟩
  | false =>
    rw [hin] at HK
    go_enter Try.func31, Try.ntmps31
    go_wp2_with (first
    | (with_reducible show wpList _ _ _ (⟨_, Op.box rvT _, _, _, _, none⟩ :: _) _ _
       refine wpList_boxA_of rfl _ rfl (resvA q n c r) rfl ?_
       intro w1 x1 l1 s1
       have X1 := Lib.hid x1
       have L1 := Lib.hid l1
       have S1 := Lib.hid s1
       clear x1 l1 s1)
    | (with_reducible show wpList _ _ _ (⟨_, Op.box roT _, _, _, _, none⟩ :: _) _ _
       refine wpList_boxA_of rfl _ rfl (ropA o) rfl ?_
       intro w2 x2 l2 s2
       rw [S1.out] at x2 s2
       rw [S1.out]
       obtain ⟨d0, d1, d2, d3, d4, d5⟩ := boxRo x2
       rw [HP.out] at d0
       have X2 := Lib.hid x2
       have Y2 := Lib.hid (X1.out.keep (l2.block _ X1.out.lt))
       obtain ⟨c0, c1, c2, c3, c4⟩ := boxRv Y2.out
       have L2 := Lib.hid (L1.out.trans (l2.mono L1.out.size))
       clear x2 l2 s2 X1 L1 S1)
    | (go_at_call 49
       refine (HK.out _ L2.out).mono ?_; rintro e w3 ⟨rfl, rfl⟩))
    go_ret
    exact ⟨rfl, L2.out⟩
set_option maxRecDepth 100000 in
set_option maxHeartbeats 8000000 in
theorem entitled_2 {w : World} {q : Option Addr} {n c : Nat} {r : ResvOf} (hq : RvAt w q n c r) (hg : GoodR r) {o : ROp} (hop : o.op = 2) :
    Calls Try.prog 31 #[.agg (resvA q n c r), .agg (ropA o)] w fun e w' => e = .returned (.bool (entR r o)) ∧ Below w.heap.size w w' := by
  have HK := Lib.hid (fun (W : World) (hb : Below w.heap.size w W) => keyOf_any (c := c) (RowsAt.below hq.at_ hb) hq.len hq.few o.who)
  have HP := Lib.hid hop
  have HH := Lib.hid (fun (W : World) (hb : Below w.heap.size w W) => held_any (RvAt.below hq hb) hg o.who)
  have HV := Lib.hid (ent_2 (r := r) hop)
  clear hq hg hop
  generalize entR r o = v at *
  generalize keyR r.regs o.who = x at *
  generalize holdsR r o.who = b at *
  cases hin : inR r.regs o.who with
  | false =>
    rw [hin] at HK HV
    have HE := Lib.hid (show v = false by rw [HV.out]; rfl)
    clear HV
    go_enter Try.func31, Try.ntmps31
    go_wp2_with (first
      | (with_reducible show wpList _ _ _ (⟨_, Op.box rvT _, _, _, _, none⟩ :: _) _ _
         refine wpList_boxA_of rfl _ rfl (resvA q n c r) rfl ?_
         intro w1 x1 l1 s1
         have X1 := Lib.hid x1
         have L1 := Lib.hid l1
         have S1 := Lib.hid s1
         clear x1 l1 s1)
      | (with_reducible show wpList _ _ _ (⟨_, Op.box roT _, _, _, _, none⟩ :: _) _ _
         refine wpList_boxA_of rfl _ rfl (ropA o) rfl ?_
         intro w2 x2 l2 s2
         rw [S1.out] at x2 s2
         rw [S1.out]
         obtain ⟨d0, d1, d2, d3, d4, d5⟩ := boxRo x2
         rw [HP.out] at d0
         have X2 := Lib.hid x2
         have Y2 := Lib.hid (X1.out.keep (l2.block _ X1.out.lt))
         obtain ⟨c0, c1, c2, c3, c4⟩ := boxRv Y2.out
         have L2 := Lib.hid (L1.out.trans (l2.mono L1.out.size))
         clear x2 l2 s2 X1 L1 S1)
      | (go_at_call 49
         refine (HK.out _ L2.out).mono ?_; rintro e w3 ⟨rfl, rfl⟩)
      | (with_reducible show wpList _ _ _ (⟨_, Op.load rvT _, _, _, _, none⟩ :: _) _ _
         refine wpList_boxA_load rowRv rfl _ rfl w.heap.size (resvA q n c r) rfl rfl Y2.out ?_)
      | (go_at_call 40
         refine (HH.out _ L2.out).mono ?_; rintro e w4 ⟨rfl, hb4⟩
         have L4 := Lib.hid (L2.out.trans (hb4.mono L2.out.size))
         clear c0 c1 c2 c3 c4 d0 d1 d2 d3 d4 d5
         obtain ⟨d0, d1, d2, d3, d4, d5⟩ := boxRo (X2.out.keep (hb4.block _ X2.out.lt))
         obtain ⟨c0, c1, c2, c3, c4⟩ := boxRv (Y2.out.keep (hb4.block _ Y2.out.lt))
         clear hb4))
    go_ret
    exact ⟨by rw [HE.out]; try rfl, L4.out⟩
  | true =>
    rw [hin] at HK HV
    cases hh : (r.h == -1) with
    | true =>
      rw [hh] at HH HV
      have HE := Lib.hid (show v = (x == o.key) by rw [HV.out]; rfl)
      clear HV
      go_enter Try.func31, Try.ntmps31
      go_wp2_with (first
        | (with_reducible show wpList _ _ _ (⟨_, Op.box rvT _, _, _, _, none⟩ :: _) _ _
           refine wpList_boxA_of rfl _ rfl (resvA q n c r) rfl ?_
           intro w1 x1 l1 s1
           have X1 := Lib.hid x1
           have L1 := Lib.hid l1
           have S1 := Lib.hid s1
           clear x1 l1 s1)
        | (with_reducible show wpList _ _ _ (⟨_, Op.box roT _, _, _, _, none⟩ :: _) _ _
           refine wpList_boxA_of rfl _ rfl (ropA o) rfl ?_
           intro w2 x2 l2 s2
           rw [S1.out] at x2 s2
           rw [S1.out]
           obtain ⟨d0, d1, d2, d3, d4, d5⟩ := boxRo x2
           rw [HP.out] at d0
           have X2 := Lib.hid x2
           have Y2 := Lib.hid (X1.out.keep (l2.block _ X1.out.lt))
           obtain ⟨c0, c1, c2, c3, c4⟩ := boxRv Y2.out
           have L2 := Lib.hid (L1.out.trans (l2.mono L1.out.size))
           clear x2 l2 s2 X1 L1 S1)
        | (go_at_call 49
           refine (HK.out _ L2.out).mono ?_; rintro e w3 ⟨rfl, rfl⟩)
        | (with_reducible show wpList _ _ _ (⟨_, Op.load rvT _, _, _, _, none⟩ :: _) _ _
           refine wpList_boxA_load rowRv rfl _ rfl w.heap.size (resvA q n c r) rfl rfl Y2.out ?_)
        | (go_at_call 40
           refine (HH.out _ L2.out).mono ?_; rintro e w4 ⟨rfl, hb4⟩
           have L4 := Lib.hid (L2.out.trans (hb4.mono L2.out.size))
           clear c0 c1 c2 c3 c4 d0 d1 d2 d3 d4 d5
           obtain ⟨d0, d1, d2, d3, d4, d5⟩ := boxRo (X2.out.keep (hb4.block _ X2.out.lt))
           obtain ⟨c0, c1, c2, c3, c4⟩ := boxRv (Y2.out.keep (hb4.block _ Y2.out.lt))
           clear hb4))
      go_ret
      exact ⟨by rw [HE.out]; try rfl, L4.out⟩
    | false =>
      rw [hh] at HH HV
      cases b with
      | false =>
        have HE := Lib.hid (show v = false by rw [HV.out]; rfl)
        clear HV
        go_enter Try.func31, Try.ntmps31
        go_wp2_with (first
          | (with_reducible show wpList _ _ _ (⟨_, Op.box rvT _, _, _, _, none⟩ :: _) _ _
             refine wpList_boxA_of rfl _ rfl (resvA q n c r) rfl ?_
             intro w1 x1 l1 s1
             have X1 := Lib.hid x1
             have L1 := Lib.hid l1
             have S1 := Lib.hid s1
             clear x1 l1 s1)
          | (with_reducible show wpList _ _ _ (⟨_, Op.box roT _, _, _, _, none⟩ :: _) _ _
             refine wpList_boxA_of rfl _ rfl (ropA o) rfl ?_
             intro w2 x2 l2 s2
             rw [S1.out] at x2 s2
             rw [S1.out]
             obtain ⟨d0, d1, d2, d3, d4, d5⟩ := boxRo x2
             rw [HP.out] at d0
             have X2 := Lib.hid x2
             have Y2 := Lib.hid (X1.out.keep (l2.block _ X1.out.lt))
             obtain ⟨c0, c1, c2, c3, c4⟩ := boxRv Y2.out
             have L2 := Lib.hid (L1.out.trans (l2.mono L1.out.size))
             clear x2 l2 s2 X1 L1 S1)
          | (go_at_call 49
             refine (HK.out _ L2.out).mono ?_; rintro e w3 ⟨rfl, rfl⟩)
          | (with_reducible show wpList _ _ _ (⟨_, Op.load rvT _, _, _, _, none⟩ :: _) _ _
             refine wpList_boxA_load rowRv rfl _ rfl w.heap.size (resvA q n c r) rfl rfl Y2.out ?_)
          | (go_at_call 40
             refine (HH.out _ L2.out).mono ?_; rintro e w4 ⟨rfl, hb4⟩
             have L4 := Lib.hid (L2.out.trans (hb4.mono L2.out.size))
             clear c0 c1 c2 c3 c4 d0 d1 d2 d3 d4 d5
             obtain ⟨d0, d1, d2, d3, d4, d5⟩ := boxRo (X2.out.keep (hb4.block _ X2.out.lt))
             obtain ⟨c0, c1, c2, c3, c4⟩ := boxRv (Y2.out.keep (hb4.block _ Y2.out.lt))
             clear hb4))
        go_ret
        exact ⟨by rw [HE.out]; try rfl, L4.out⟩
      | true =>
        cases ht : (o.ty == r.t) with
        | false =>
          rw [ht] at HV
          have HE := Lib.hid (show v = false by rw [HV.out]; rfl)
          clear HV
          go_enter Try.func31, Try.ntmps31
          go_wp2_with (first
            | (with_reducible show wpList _ _ _ (⟨_, Op.box rvT _, _, _, _, none⟩ :: _) _ _
               refine wpList_boxA_of rfl _ rfl (resvA q n c r) rfl ?_
               intro w1 x1 l1 s1
               have X1 := Lib.hid x1
               have L1 := Lib.hid l1
               have S1 := Lib.hid s1
               clear x1 l1 s1)
            | (with_reducible show wpList _ _ _ (⟨_, Op.box roT _, _, _, _, none⟩ :: _) _ _
               refine wpList_boxA_of rfl _ rfl (ropA o) rfl ?_
               intro w2 x2 l2 s2
               rw [S1.out] at x2 s2
               rw [S1.out]
               obtain ⟨d0, d1, d2, d3, d4, d5⟩ := boxRo x2
               rw [HP.out] at d0
               have X2 := Lib.hid x2
               have Y2 := Lib.hid (X1.out.keep (l2.block _ X1.out.lt))
               obtain ⟨c0, c1, c2, c3, c4⟩ := boxRv Y2.out
               have L2 := Lib.hid (L1.out.trans (l2.mono L1.out.size))
               clear x2 l2 s2 X1 L1 S1)
            | (go_at_call 49
               refine (HK.out _ L2.out).mono ?_; rintro e w3 ⟨rfl, rfl⟩)
            | (with_reducible show wpList _ _ _ (⟨_, Op.load rvT _, _, _, _, none⟩ :: _) _ _
               refine wpList_boxA_load rowRv rfl _ rfl w.heap.size (resvA q n c r) rfl rfl Y2.out ?_)
            | (go_at_call 40
               refine (HH.out _ L2.out).mono ?_; rintro e w4 ⟨rfl, hb4⟩
               have L4 := Lib.hid (L2.out.trans (hb4.mono L2.out.size))
               clear c0 c1 c2 c3 c4 d0 d1 d2 d3 d4 d5
               obtain ⟨d0, d1, d2, d3, d4, d5⟩ := boxRo (X2.out.keep (hb4.block _ X2.out.lt))
               obtain ⟨c0, c1, c2, c3, c4⟩ := boxRv (Y2.out.keep (hb4.block _ Y2.out.lt))
               clear hb4))
          go_ret
          exact ⟨by rw [HE.out]; try rfl, L4.out⟩
        | true =>
          rw [ht] at HV
          have HE := Lib.hid (show v = (x == o.key) by rw [HV.out]; rfl)
          clear HV
          go_enter Try.func31, Try.ntmps31
          go_wp2_with (first
            | (with_reducible show wpList _ _ _ (⟨_, Op.box rvT _, _, _, _, none⟩ :: _) _ _
               refine wpList_boxA_of rfl _ rfl (resvA q n c r) rfl ?_
               intro w1 x1 l1 s1
               have X1 := Lib.hid x1
               have L1 := Lib.hid l1
               have S1 := Lib.hid s1
               clear x1 l1 s1)
            | (with_reducible show wpList _ _ _ (⟨_, Op.box roT _, _, _, _, none⟩ :: _) _ _
               refine wpList_boxA_of rfl _ rfl (ropA o) rfl ?_
               intro w2 x2 l2 s2
               rw [S1.out] at x2 s2
               rw [S1.out]
               obtain ⟨d0, d1, d2, d3, d4, d5⟩ := boxRo x2
               rw [HP.out] at d0
               have X2 := Lib.hid x2
               have Y2 := Lib.hid (X1.out.keep (l2.block _ X1.out.lt))
               obtain ⟨c0, c1, c2, c3, c4⟩ := boxRv Y2.out
               have L2 := Lib.hid (L1.out.trans (l2.mono L1.out.size))
               clear x2 l2 s2 X1 L1 S1)
            | (go_at_call 49
               refine (HK.out _ L2.out).mono ?_; rintro e w3 ⟨rfl, rfl⟩)
            | (with_reducible show wpList _ _ _ (⟨_, Op.load rvT _, _, _, _, none⟩ :: _) _ _
               refine wpList_boxA_load rowRv rfl _ rfl w.heap.size (resvA q n c r) rfl rfl Y2.out ?_)
            | (go_at_call 40
               refine (HH.out _ L2.out).mono ?_; rintro e w4 ⟨rfl, hb4⟩
               have L4 := Lib.hid (L2.out.trans (hb4.mono L2.out.size))
               clear c0 c1 c2 c3 c4 d0 d1 d2 d3 d4 d5
               obtain ⟨d0, d1, d2, d3, d4, d5⟩ := boxRo (X2.out.keep (hb4.block _ X2.out.lt))
               obtain ⟨c0, c1, c2, c3, c4⟩ := boxRv (Y2.out.keep (hb4.block _ Y2.out.lt))
               clear hb4))
          go_ret
          exact ⟨by rw [HE.out]; try rfl, L4.out⟩
set_option maxRecDepth 100000 in
set_option maxHeartbeats 16000000 in
theorem entitled_5 {w : World} {q : Option Addr} {n c : Nat} {r : ResvOf} (hq : RvAt w q n c r) (hg : GoodR r) {o : ROp} (hop : o.op = 5) :
    Calls Try.prog 31 #[.agg (resvA q n c r), .agg (ropA o)] w fun e w' => e = .returned (.bool (entR r o)) ∧ Below w.heap.size w w' := by
  have HK := Lib.hid (fun (W : World) (hb : Below w.heap.size w W) => keyOf_any (c := c) (RowsAt.below hq.at_ hb) hq.len hq.few o.who)
  have HP := Lib.hid hop
  have HL := Lib.hid (fun (W : World) (hb : Below w.heap.size w W) => left_any (c := c) (RowsAt.below hq.at_ hb) hq.len hq.few o)
  have HHS := Lib.hid (fun (W : World) (hb : Below w.heap.size w W) => holderHas_any (RvAt.below hq hb) o.new)
  have HV := Lib.hid (ent_5 (r := r) hop)
  have HLN := Lib.hid hq.len
  rw [hq.len] at HV
  clear hq hg hop
  generalize entR r o = v at *
  generalize keyR r.regs o.who = x at *
  generalize hasR r o.new = b at *
  cases hin : inR r.regs o.who with
  | false =>
    rw [hin] at HK HV
    have HE := Lib.hid (show v = false by rw [HV.out]; rfl)
    clear HV
    go_enter Try.func31, Try.ntmps31
    go_wp2_with (first
    | (with_reducible show wpList _ _ _ (⟨_, Op.box rvT _, _, _, _, none⟩ :: _) _ _
       refine wpList_boxA_of rfl _ rfl (resvA q n c r) rfl ?_
       intro w1 x1 l1 s1
       have X1 := Lib.hid x1
       have L1 := Lib.hid l1
       have S1 := Lib.hid s1
       clear x1 l1 s1)
    | (with_reducible show wpList _ _ _ (⟨_, Op.box roT _, _, _, _, none⟩ :: _) _ _
       refine wpList_boxA_of rfl _ rfl (ropA o) rfl ?_
       intro w2 x2 l2 s2
       rw [S1.out] at x2 s2
       rw [S1.out]
       obtain ⟨d0, d1, d2, d3, d4, d5⟩ := boxRo x2
       rw [HP.out] at d0
       have X2 := Lib.hid x2
       have Y2 := Lib.hid (X1.out.keep (l2.block _ X1.out.lt))
       obtain ⟨c0, c1, c2, c3, c4⟩ := boxRv Y2.out
       have L2 := Lib.hid (L1.out.trans (l2.mono L1.out.size))
       clear x2 l2 s2 X1 L1 S1)
    | (go_at_call 49
       refine (HK.out _ L2.out).mono ?_; rintro e w3 ⟨rfl, rfl⟩))
    go_quiet (fail)
    have LQ := Lib.hid (below_drawn L2.out nq)
    generalize w2.drewN nq = w5 at *
    go_wp2
    go_ret
    exact ⟨by rw [HE.out]; try rfl, LQ.out⟩
  | true =>
    rw [hin] at HK HV
    have hm : ∃ z, decide ((r.regs.filter fun p => !(goneF o p)).length < n) = z := ⟨_, rfl⟩
    obtain ⟨z, hm⟩ := hm
    rw [hm] at HV
    cases z with
    | true =>
      have HM := Lib.hid (show decide ((((r.regs.filter fun p => !(goneF o p)).length : Nat) : Int) < (n : Int)) = true by simpa using hm)
      have HE := Lib.hid (show v = (x == o.key) by rw [HV.out]; rfl)
      clear HV hm
      go_enter Try.func31, Try.ntmps31
      go_wp2_with (first
    | (with_reducible show wpList _ _ _ (⟨_, Op.box rvT _, _, _, _, none⟩ :: _) _ _
       refine wpList_boxA_of rfl _ rfl (resvA q n c r) rfl ?_
       intro w1 x1 l1 s1
       have X1 := Lib.hid x1
       have L1 := Lib.hid l1
       have S1 := Lib.hid s1
       clear x1 l1 s1)
    | (with_reducible show wpList _ _ _ (⟨_, Op.box roT _, _, _, _, none⟩ :: _) _ _
       refine wpList_boxA_of rfl _ rfl (ropA o) rfl ?_
       intro w2 x2 l2 s2
       rw [S1.out] at x2 s2
       rw [S1.out]
       obtain ⟨d0, d1, d2, d3, d4, d5⟩ := boxRo x2
       rw [HP.out] at d0
       have X2 := Lib.hid x2
       have Y2 := Lib.hid (X1.out.keep (l2.block _ X1.out.lt))
       obtain ⟨c0, c1, c2, c3, c4⟩ := boxRv Y2.out
       have L2 := Lib.hid (L1.out.trans (l2.mono L1.out.size))
       clear x2 l2 s2 X1 L1 S1)
    | (go_at_call 49
       refine (HK.out _ L2.out).mono ?_; rintro e w3 ⟨rfl, rfl⟩))
      refine wp_region_sched [(0, true), (1, true), (2, true), (3, true), (4, true), (7, true), (8, true), (9, true), (5, false), (6, true), (10, true), (11, true), (12, true), (13, true), (14, true), (15, false), (16, true), (17, true), (18, true)] (fun V => BoxA V w.heap.size rvT (resvA q n c r) ∧ BoxA V (w.heap.size + 1) roT (ropA o)) (by kernel_rfl) (by kernel_rfl) ⟨Y2.out, X2.out⟩ ?_
      refine walk_float rfl rfl (fun K hK => ?_)
      refine gives_move _ rfl ?_
      go_simp
      refine hK _ ?_
      clear hK K
      refine walk_float rfl rfl (fun K hK => ?_)
      refine gives_move _ rfl ?_
      go_simp
      refine hK _ ?_
      clear hK K
      refine walk_float rfl rfl (fun K hK => ?_)
      refine gives_rvfield _ 0 rfl (by decide) w.heap.size rfl ?_
      go_simp
      refine hK _ ?_
      clear hK K
      refine walk_float rfl rfl (fun K hK => ?_)
      refine gives_cell rgS _ rfl ⟨w.heap.size, 0, none⟩ (.slice q n c) rfl box_regs (fun V hV => (boxRv hV.1).1) ?_
      go_simp
      refine hK _ ?_
      clear hK K
      refine walk_float rfl rfl (fun K hK => ?_)
      refine gives_boxA_load rowOp _ rfl (w.heap.size + 1) (ropA o) rfl rfl (fun V hV => hV.2) ?_
      go_simp
      refine hK _ ?_
      clear hK K
      refine walk_float rfl rfl (fun K hK => ?_)
      refine gives_rvfield _ 0 rfl (by decide) w.heap.size rfl ?_
      go_simp
      refine hK _ ?_
      clear hK K
      refine walk_float rfl rfl (fun K hK => ?_)
      refine gives_cell rgS _ rfl ⟨w.heap.size, 0, none⟩ (.slice q n c) rfl box_regs (fun V hV => (boxRv hV.1).1) ?_
      go_simp
      refine hK _ ?_
      clear hK K
      refine walk_float rfl rfl (fun K hK => ?_)
      refine gives_len_regs _ rfl q n c rfl ?_
      go_simp
      refine hK _ ?_
      clear hK K
      have LD := Lib.hid (show Below w.heap.size w w2.drew from L2.out.drew)
      refine walk_done rfl rfl (fun K hK => ?_)
      refine done_call2 _ _ _ _ rfl 50 rfl (.slice q n c) (.agg (ropA o)) rfl rfl (enters_of Try.func50 (by kernel_rfl) rfl) ?_
      refine (HL.out _ LD.out).mono ?_
      rintro e w3 ⟨q1, m1, e1, rfl, ho, hb⟩
      have M1 := Lib.hid (wo_slice ho)
      have L3 := Lib.hid (LD.out.trans (hb.mono LD.out.size))
      have Y3 := Lib.hid (show BoxA w3 w.heap.size rvT (resvA q n c r) from Y2.out.keep (hb.block _ Y2.out.lt))
      have X3 := Lib.hid (show BoxA w3 (w.heap.size + 1) roT (ropA o) from X2.out.keep (hb.block _ X2.out.lt))
      clear ho hb HL LD
      refine ⟨_, rfl, ⟨Y3.out, X3.out⟩, ?_⟩
      go_simp
      refine hK _ _ ?_
      clear hK K
      refine walk_float rfl rfl (fun K hK => ?_)
      refine gives_len_regs _ rfl q1 m1 e1 rfl ?_
      go_simp
      refine hK _ ?_
      clear hK K
      refine walk_float rfl rfl (fun K hK => ?_)
      refine gives_int_less _ _ rfl m1 n rfl rfl true (by rw [M1.out]; exact HM.out) ?_
      go_simp
      refine hK _ ?_
      clear hK K
      refine walk_float rfl rfl (fun K hK => ?_)
      refine gives_move _ rfl ?_
      go_simp
      refine hK _ ?_
      clear hK K
      refine walk_off rfl rfl ?_
      go_simp
      refine walk_off rfl rfl ?_
      go_simp
      refine walk_off rfl rfl ?_
      go_simp
      refine walk_off' rfl rfl ?_
      go_simp
      refine walk_float rfl rfl (fun K hK => ?_)
      refine gives_pickT _ _ _ rfl rfl (.bool true) rfl ?_
      go_simp
      refine hK _ ?_
      clear hK K
      refine walk_float rfl rfl (fun K hK => ?_)
      refine gives_pickT _ _ _ rfl rfl (.bool true) rfl ?_
      go_simp
      refine hK _ ?_
      clear hK K
      refine walk_float rfl rfl (fun K hK => ?_)
      refine gives_assign _ rfl ?_
      go_simp
      refine hK _ ?_
      clear hK K
      have L5 := Lib.hid L3.out
      have X5 := Lib.hid X3.out
      refine walk_nil ?_
      clear c0 c1 c2 c3 c4 d0 d1 d2 d3 d4 d5
      obtain ⟨d0, d1, d2, d3, d4, d5⟩ := boxRo X5.out
      go_wp2
      go_ret
      exact ⟨by rw [HE.out]; try rfl, L5.out⟩
    | false =>
      have HM := Lib.hid (show decide ((((r.regs.filter fun p => !(goneF o p)).length : Nat) : Int) < (n : Int)) = false by simpa using hm)
      cases b with
      | true =>
        have HE := Lib.hid (show v = (x == o.key) by rw [HV.out]; rfl)
        clear HV hm
        go_enter Try.func31, Try.ntmps31
        go_wp2_with (first
    | (with_reducible show wpList _ _ _ (⟨_, Op.box rvT _, _, _, _, none⟩ :: _) _ _
       refine wpList_boxA_of rfl _ rfl (resvA q n c r) rfl ?_
       intro w1 x1 l1 s1
       have X1 := Lib.hid x1
       have L1 := Lib.hid l1
       have S1 := Lib.hid s1
       clear x1 l1 s1)
    | (with_reducible show wpList _ _ _ (⟨_, Op.box roT _, _, _, _, none⟩ :: _) _ _
       refine wpList_boxA_of rfl _ rfl (ropA o) rfl ?_
       intro w2 x2 l2 s2
       rw [S1.out] at x2 s2
       rw [S1.out]
       obtain ⟨d0, d1, d2, d3, d4, d5⟩ := boxRo x2
       rw [HP.out] at d0
       have X2 := Lib.hid x2
       have Y2 := Lib.hid (X1.out.keep (l2.block _ X1.out.lt))
       obtain ⟨c0, c1, c2, c3, c4⟩ := boxRv Y2.out
       have L2 := Lib.hid (L1.out.trans (l2.mono L1.out.size))
       clear x2 l2 s2 X1 L1 S1)
    | (go_at_call 49
       refine (HK.out _ L2.out).mono ?_; rintro e w3 ⟨rfl, rfl⟩))
        refine wp_region_sched [(0, true), (1, true), (2, true), (3, true), (4, true), (7, true), (8, true), (9, true), (5, false), (6, true), (10, true), (11, true), (12, true), (13, true), (14, true), (15, false), (16, true), (17, true), (18, true)] (fun V => BoxA V w.heap.size rvT (resvA q n c r) ∧ BoxA V (w.heap.size + 1) roT (ropA o)) (by kernel_rfl) (by kernel_rfl) ⟨Y2.out, X2.out⟩ ?_
        refine walk_float rfl rfl (fun K hK => ?_)
        refine gives_move _ rfl ?_
        go_simp
        refine hK _ ?_
        clear hK K
        refine walk_float rfl rfl (fun K hK => ?_)
        refine gives_move _ rfl ?_
        go_simp
        refine hK _ ?_
        clear hK K
        refine walk_float rfl rfl (fun K hK => ?_)
        refine gives_rvfield _ 0 rfl (by decide) w.heap.size rfl ?_
        go_simp
        refine hK _ ?_
        clear hK K
        refine walk_float rfl rfl (fun K hK => ?_)
        refine gives_cell rgS _ rfl ⟨w.heap.size, 0, none⟩ (.slice q n c) rfl box_regs (fun V hV => (boxRv hV.1).1) ?_
        go_simp
        refine hK _ ?_
        clear hK K
        refine walk_float rfl rfl (fun K hK => ?_)
        refine gives_boxA_load rowOp _ rfl (w.heap.size + 1) (ropA o) rfl rfl (fun V hV => hV.2) ?_
        go_simp
        refine hK _ ?_
        clear hK K
        refine walk_float rfl rfl (fun K hK => ?_)
        refine gives_rvfield _ 0 rfl (by decide) w.heap.size rfl ?_
        go_simp
        refine hK _ ?_
        clear hK K
        refine walk_float rfl rfl (fun K hK => ?_)
        refine gives_cell rgS _ rfl ⟨w.heap.size, 0, none⟩ (.slice q n c) rfl box_regs (fun V hV => (boxRv hV.1).1) ?_
        go_simp
        refine hK _ ?_
        clear hK K
        refine walk_float rfl rfl (fun K hK => ?_)
        refine gives_len_regs _ rfl q n c rfl ?_
        go_simp
        refine hK _ ?_
        clear hK K
        have LD := Lib.hid (show Below w.heap.size w w2.drew from L2.out.drew)
        refine walk_done rfl rfl (fun K hK => ?_)
        refine done_call2 _ _ _ _ rfl 50 rfl (.slice q n c) (.agg (ropA o)) rfl rfl (enters_of Try.func50 (by kernel_rfl) rfl) ?_
        refine (HL.out _ LD.out).mono ?_
        rintro e w3 ⟨q1, m1, e1, rfl, ho, hb⟩
        have M1 := Lib.hid (wo_slice ho)
        have L3 := Lib.hid (LD.out.trans (hb.mono LD.out.size))
        have Y3 := Lib.hid (show BoxA w3 w.heap.size rvT (resvA q n c r) from Y2.out.keep (hb.block _ Y2.out.lt))
        have X3 := Lib.hid (show BoxA w3 (w.heap.size + 1) roT (ropA o) from X2.out.keep (hb.block _ X2.out.lt))
        clear ho hb HL LD
        refine ⟨_, rfl, ⟨Y3.out, X3.out⟩, ?_⟩
        go_simp
        refine hK _ _ ?_
        clear hK K
        refine walk_float rfl rfl (fun K hK => ?_)
        refine gives_len_regs _ rfl q1 m1 e1 rfl ?_
        go_simp
        refine hK _ ?_
        clear hK K
        refine walk_float rfl rfl (fun K hK => ?_)
        refine gives_int_less _ _ rfl m1 n rfl rfl false (by rw [M1.out]; exact HM.out) ?_
        go_simp
        refine hK _ ?_
        clear hK K
        refine walk_float rfl rfl (fun K hK => ?_)
        refine gives_move _ rfl ?_
        go_simp
        refine hK _ ?_
        clear hK K
        refine walk_float rfl rfl (fun K hK => ?_)
        refine gives_boxA_load rowRv _ rfl w.heap.size (resvA q n c r) rfl rfl (fun V hV => hV.1) ?_
        go_simp
        refine hK _ ?_
        clear hK K
        refine walk_float rfl rfl (fun K hK => ?_)
        refine gives_rofield _ 3 rfl (by decide) (w.heap.size + 1) rfl ?_
        go_simp
        refine hK _ ?_
        clear hK K
        refine walk_float rfl rfl (fun K hK => ?_)
        refine gives_cell 3 _ rfl ⟨w.heap.size + 1, 3, none⟩ (.int .i64 o.new) rfl box_int (fun V hV => (boxRo hV.2).2.2.2.1) ?_
        go_simp
        refine hK _ ?_
        clear hK K
        refine walk_done rfl rfl (fun K hK => ?_)
        refine done_call2 _ _ _ _ rfl 51 rfl (.agg (resvA q n c r)) (.int .i64 o.new) rfl rfl (enters_of Try.func51 (by kernel_rfl) rfl) ?_
        refine (HHS.out _ L3.out).mono ?_
        rintro e w5 ⟨rfl, hb⟩
        have L5 := Lib.hid (L3.out.trans (hb.mono L3.out.size))
        have Y5 := Lib.hid (show BoxA w5 w.heap.size rvT (resvA q n c r) from Y3.out.keep (hb.block _ Y3.out.lt))
        have X5 := Lib.hid (show BoxA w5 (w.heap.size + 1) roT (ropA o) from X3.out.keep (hb.block _ X3.out.lt))
        clear hb
        refine ⟨_, rfl, ⟨Y5.out, X5.out⟩, ?_⟩
        go_simp
        refine hK _ _ ?_
        clear hK K
        refine walk_float rfl rfl (fun K hK => ?_)
        refine gives_pickF _ _ _ rfl rfl (.bool true) rfl ?_
        go_simp
        refine hK _ ?_
        clear hK K
        refine walk_float rfl rfl (fun K hK => ?_)
        refine gives_pickT _ _ _ rfl rfl (.bool true) rfl ?_
        go_simp
        refine hK _ ?_
        clear hK K
        refine walk_float rfl rfl (fun K hK => ?_)
        refine gives_assign _ rfl ?_
        go_simp
        refine hK _ ?_
        clear hK K
        refine walk_nil ?_
        clear c0 c1 c2 c3 c4 d0 d1 d2 d3 d4 d5
        obtain ⟨d0, d1, d2, d3, d4, d5⟩ := boxRo X5.out
        go_wp2
        go_ret
        exact ⟨by rw [HE.out]; try rfl, L5.out⟩
      | false =>
        have HE := Lib.hid (show v = false by rw [HV.out]; rfl)
        clear HV hm
        go_enter Try.func31, Try.ntmps31
        go_wp2_with (first
    | (with_reducible show wpList _ _ _ (⟨_, Op.box rvT _, _, _, _, none⟩ :: _) _ _
       refine wpList_boxA_of rfl _ rfl (resvA q n c r) rfl ?_
       intro w1 x1 l1 s1
       have X1 := Lib.hid x1
       have L1 := Lib.hid l1
       have S1 := Lib.hid s1
       clear x1 l1 s1)
    | (with_reducible show wpList _ _ _ (⟨_, Op.box roT _, _, _, _, none⟩ :: _) _ _
       refine wpList_boxA_of rfl _ rfl (ropA o) rfl ?_
       intro w2 x2 l2 s2
       rw [S1.out] at x2 s2
       rw [S1.out]
       obtain ⟨d0, d1, d2, d3, d4, d5⟩ := boxRo x2
       rw [HP.out] at d0
       have X2 := Lib.hid x2
       have Y2 := Lib.hid (X1.out.keep (l2.block _ X1.out.lt))
       obtain ⟨c0, c1, c2, c3, c4⟩ := boxRv Y2.out
       have L2 := Lib.hid (L1.out.trans (l2.mono L1.out.size))
       clear x2 l2 s2 X1 L1 S1)
    | (go_at_call 49
       refine (HK.out _ L2.out).mono ?_; rintro e w3 ⟨rfl, rfl⟩))
        refine wp_region_sched [(0, true), (1, true), (2, true), (3, true), (4, true), (7, true), (8, true), (9, true), (5, false), (6, true), (10, true), (11, true), (12, true), (13, true), (14, true), (15, false), (16, true), (17, true), (18, true)] (fun V => BoxA V w.heap.size rvT (resvA q n c r) ∧ BoxA V (w.heap.size + 1) roT (ropA o)) (by kernel_rfl) (by kernel_rfl) ⟨Y2.out, X2.out⟩ ?_
        refine walk_float rfl rfl (fun K hK => ?_)
        refine gives_move _ rfl ?_
        go_simp
        refine hK _ ?_
        clear hK K
        refine walk_float rfl rfl (fun K hK => ?_)
        refine gives_move _ rfl ?_
        go_simp
        refine hK _ ?_
        clear hK K
        refine walk_float rfl rfl (fun K hK => ?_)
        refine gives_rvfield _ 0 rfl (by decide) w.heap.size rfl ?_
        go_simp
        refine hK _ ?_
        clear hK K
        refine walk_float rfl rfl (fun K hK => ?_)
        refine gives_cell rgS _ rfl ⟨w.heap.size, 0, none⟩ (.slice q n c) rfl box_regs (fun V hV => (boxRv hV.1).1) ?_
        go_simp
        refine hK _ ?_
        clear hK K
        refine walk_float rfl rfl (fun K hK => ?_)
        refine gives_boxA_load rowOp _ rfl (w.heap.size + 1) (ropA o) rfl rfl (fun V hV => hV.2) ?_
        go_simp
        refine hK _ ?_
        clear hK K
        refine walk_float rfl rfl (fun K hK => ?_)
        refine gives_rvfield _ 0 rfl (by decide) w.heap.size rfl ?_
        go_simp
        refine hK _ ?_
        clear hK K
        refine walk_float rfl rfl (fun K hK => ?_)
        refine gives_cell rgS _ rfl ⟨w.heap.size, 0, none⟩ (.slice q n c) rfl box_regs (fun V hV => (boxRv hV.1).1) ?_
        go_simp
        refine hK _ ?_
        clear hK K
        refine walk_float rfl rfl (fun K hK => ?_)
        refine gives_len_regs _ rfl q n c rfl ?_
        go_simp
        refine hK _ ?_
        clear hK K
        have LD := Lib.hid (show Below w.heap.size w w2.drew from L2.out.drew)
        refine walk_done rfl rfl (fun K hK => ?_)
        refine done_call2 _ _ _ _ rfl 50 rfl (.slice q n c) (.agg (ropA o)) rfl rfl (enters_of Try.func50 (by kernel_rfl) rfl) ?_
        refine (HL.out _ LD.out).mono ?_
        rintro e w3 ⟨q1, m1, e1, rfl, ho, hb⟩
        have M1 := Lib.hid (wo_slice ho)
        have L3 := Lib.hid (LD.out.trans (hb.mono LD.out.size))
        have Y3 := Lib.hid (show BoxA w3 w.heap.size rvT (resvA q n c r) from Y2.out.keep (hb.block _ Y2.out.lt))
        have X3 := Lib.hid (show BoxA w3 (w.heap.size + 1) roT (ropA o) from X2.out.keep (hb.block _ X2.out.lt))
        clear ho hb HL LD
        refine ⟨_, rfl, ⟨Y3.out, X3.out⟩, ?_⟩
        go_simp
        refine hK _ _ ?_
        clear hK K
        refine walk_float rfl rfl (fun K hK => ?_)
        refine gives_len_regs _ rfl q1 m1 e1 rfl ?_
        go_simp
        refine hK _ ?_
        clear hK K
        refine walk_float rfl rfl (fun K hK => ?_)
        refine gives_int_less _ _ rfl m1 n rfl rfl false (by rw [M1.out]; exact HM.out) ?_
        go_simp
        refine hK _ ?_
        clear hK K
        refine walk_float rfl rfl (fun K hK => ?_)
        refine gives_move _ rfl ?_
        go_simp
        refine hK _ ?_
        clear hK K
        refine walk_float rfl rfl (fun K hK => ?_)
        refine gives_boxA_load rowRv _ rfl w.heap.size (resvA q n c r) rfl rfl (fun V hV => hV.1) ?_
        go_simp
        refine hK _ ?_
        clear hK K
        refine walk_float rfl rfl (fun K hK => ?_)
        refine gives_rofield _ 3 rfl (by decide) (w.heap.size + 1) rfl ?_
        go_simp
        refine hK _ ?_
        clear hK K
        refine walk_float rfl rfl (fun K hK => ?_)
        refine gives_cell 3 _ rfl ⟨w.heap.size + 1, 3, none⟩ (.int .i64 o.new) rfl box_int (fun V hV => (boxRo hV.2).2.2.2.1) ?_
        go_simp
        refine hK _ ?_
        clear hK K
        refine walk_done rfl rfl (fun K hK => ?_)
        refine done_call2 _ _ _ _ rfl 51 rfl (.agg (resvA q n c r)) (.int .i64 o.new) rfl rfl (enters_of Try.func51 (by kernel_rfl) rfl) ?_
        refine (HHS.out _ L3.out).mono ?_
        rintro e w5 ⟨rfl, hb⟩
        have L5 := Lib.hid (L3.out.trans (hb.mono L3.out.size))
        have Y5 := Lib.hid (show BoxA w5 w.heap.size rvT (resvA q n c r) from Y3.out.keep (hb.block _ Y3.out.lt))
        have X5 := Lib.hid (show BoxA w5 (w.heap.size + 1) roT (ropA o) from X3.out.keep (hb.block _ X3.out.lt))
        clear hb
        refine ⟨_, rfl, ⟨Y5.out, X5.out⟩, ?_⟩
        go_simp
        refine hK _ _ ?_
        clear hK K
        refine walk_float rfl rfl (fun K hK => ?_)
        refine gives_pickF _ _ _ rfl rfl (.bool false) rfl ?_
        go_simp
        refine hK _ ?_
        clear hK K
        refine walk_float rfl rfl (fun K hK => ?_)
        refine gives_pickT _ _ _ rfl rfl (.bool false) rfl ?_
        go_simp
        refine hK _ ?_
        clear hK K
        refine walk_float rfl rfl (fun K hK => ?_)
        refine gives_assign _ rfl ?_
        go_simp
        refine hK _ ?_
        clear hK K
        refine walk_nil ?_
        clear c0 c1 c2 c3 c4 d0 d1 d2 d3 d4 d5
        obtain ⟨d0, d1, d2, d3, d4, d5⟩ := boxRo X5.out
        go_wp2
        go_ret
        exact ⟨by rw [HE.out]; try rfl, L5.out⟩
theorem entitled_any {w : World} {q : Option Addr} {n c : Nat} {r : ResvOf} (hq : RvAt w q n c r) (hg : GoodR r) {o : ROp} (hw : wellR o = true) :
    Calls Try.prog 31 #[.agg (resvA q n c r), .agg (ropA o)] w fun e w' => e = .returned (.bool (entR r o)) ∧ Below w.heap.size w w' := by
  obtain ⟨h1, h2, -⟩ := well_says (by rw [hw]; rfl : (!(wellR o)) = false)
  obtain h | h | h | h | h | h : o.op = 1 ∨ o.op = 2 ∨ o.op = 3 ∨ o.op = 4 ∨ o.op = 5 ∨ o.op = 6 := by omega
  · exact entitled_1 hq hg h
  · exact entitled_2 hq hg h
  · exact entitled_3 hq hg h
  · exact entitled_4 hq hg h
  · exact entitled_5 hq hg h
  · exact entitled_6 hq hg h
end Go.Proofs.Ytfnkdmdcjliebaa

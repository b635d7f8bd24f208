/- In a round of a loop over an iterator, under the wide fence: operations that are no defer statements are carried out as anywhere; so lists of them, and regions whose order is drawn. Condition: nothing is let out. -/
import Derived.Test.YtfjbehobpkmjbaaDoorTailQ
import Derived.RangeFuncNested
import Derived.OrdersIn
import Derived.OwnWalkIn
namespace Go.Proofs.YtfjbehobpkmjbaaDoor
open Go

section
variable {P : Program} {ops : Array Oper} {Q : Exit → Act → World → Prop} {l n : Nat}
theorem upon_round {o : Oper} {a : Act} {K : Act → World → Prop} {r : Result Next} (h : o.upon P a K Q r) : o.uponIn (Fence.wide.inRound l) n P a K Q r := by
  cases r with
  | ok x w' =>
    cases x with
    | value v => exact h
    | skip => exact h
    | defer d => exact h
    | enter f args => exact ⟨fun h => by simp [Fence.wide, Fence.inRound] at h, CallsIn.inRound l (callsIn_wide.2 h)⟩
    | row row args => exact ⟨fun h => by simp [Fence.wide, Fence.inRound] at h, fun c cs _ => let ⟨v, w'', r, s⟩ := h c cs; ⟨v, w'', r, stepsIn_wide.2 s⟩⟩
    | _ => exact h.elim
  | halt x w' => cases x <;> first | exact h | exact h.elim
def noDefer (o : Oper) : Bool := match o.op with | .defer _ => false | _ => true
theorem noDefer_spec {o : Oper} (h : noDefer o = true) : ∀ c, o.op ≠ .defer c := fun c e => by unfold noDefer at h; rw [e] at h; cases h
theorem oper_round {o : Oper} {a : Act} {w : World} {K : Act → World → Prop} (hd : noDefer o = true) (h : o.wp P a w K Q) : o.wpIn (Fence.wide.inRound l) n P a w K Q :=
  ⟨fun _ _ => trivial, by rw [Oper.semAt_eq _ _ _ (noDefer_spec hd)]; exact upon_round h⟩
theorem wpListIn_round (hq : ¬ LetsOut Q) : ∀ (xs : List Oper) (a : Act) (w : World), xs.all noDefer = true → wpList P ops Q xs a w → wpListIn (Fence.wide.inRound l) n P ops Q xs a w
  | [], _, _, _, h => h
  | o :: xs, a, w, hd, h => by
    simp only [List.all_cons, Bool.and_eq_true] at hd
    unfold wpList at h
    unfold wpListIn
    by_cases hw : Region.wanted o (yielded ops a.tmps) = true
    · rw [if_pos hw] at h ⊢
      rcases h with h | ⟨_, h⟩
      · exact Oper.wpIn_mono (fun a' w' h' => wpListIn_round hq xs a' w' hd.2 h') (oper_round hd.1 h)
      · exact absurd h hq
    · rw [if_neg hw] at h ⊢
      exact ⟨fun _ _ => trivial, wpListIn_round hq xs _ _ hd.2 h⟩
theorem wp_of_list {o : Oper} {a a2 : Act} {w w2 : World} {K : Act → World → Prop} {Q : Exit → Act → World → Prop} (hg : o.guard = none) (h : wpList P ops (fun e a' w' => e = .normal ∧ a' = a2 ∧ w' = w2) [o] a w) (hK : K a2 w2) : o.wp P a w K Q := by
  unfold wpList at h
  have hw : Region.wanted o (yielded ops a.tmps) = true := by simp [Region.wanted, hg]
  rw [if_pos hw] at h
  rcases h with h | ⟨_, a', w', h⟩
  · unfold Oper.wp at *
    generalize (execOp a.eval o).run P w = r at *
    cases r with
    | ok x w' =>
      cases x with
      | value v => obtain ⟨_, h1, h2⟩ := (show _ = _ ∧ _ = _ ∧ _ = _ from h); show K _ _; rw [h1, h2]; exact hK
      | skip => obtain ⟨_, h1, h2⟩ := (show _ = _ ∧ _ = _ ∧ _ = _ from h); show K _ _; rw [h1, h2]; exact hK
      | defer d => obtain ⟨_, h1, h2⟩ := (show _ = _ ∧ _ = _ ∧ _ = _ from h); show K _ _; rw [h1, h2]; exact hK
      | enter f args =>
        refine Calls.mono h fun e w'' he => ?_
        cases e with
        | returned v => obtain ⟨_, h1, h2⟩ := (show _ = _ ∧ _ = _ ∧ _ = _ from he); show K _ _; rw [h1, h2]; exact hK
        | panicked c => cases he.1
        | outgrown => obtain ⟨_, _, he⟩ := he; cases he.1
      | row row args =>
        refine Rows.mono h fun v w'' he => ?_
        obtain ⟨_, h1, h2⟩ := (show _ = _ ∧ _ = _ ∧ _ = _ from he); show K _ _; rw [h1, h2]; exact hK
      | _ => exact h.elim
    | halt x w' => cases x <;> first | exact h.elim | cases h.1
  · cases h.1
theorem wpListIn_of_list {F : Fence} {o : Oper} {rest : List Oper} {a a2 : Act} {w w2 : World} (hF : F = Fence.wide.inRound l) (hg : o.guard = none) (hd : noDefer o = true) (h : wpList P ops (fun e a' w' => e = .normal ∧ a' = a2 ∧ w' = w2) [o] a w)
    (hk : wpListIn F n P ops Q rest a2 w2) : wpListIn F n P ops Q (o :: rest) a w := by
  subst hF
  refine wpListIn_plain hg fun K hK => ?_
  exact oper_round hd (wp_of_list hg h (hK _ _ hk))
theorem region_round {id : Nat} {a : Act} {w : World} {xs : List Oper} (hd : xs.all noDefer = true) (hq : ¬ LetsOut Q) (h : wpList P xs.toArray Q xs a w) : (Code.region id xs.toArray false).wpIn (Fence.wide.inRound l) n P Q a w :=
  wpIn_region_lit (wpListIn_round hq xs a w hd h)
theorem wpAnyIn_round {md : Region.Mode} (hd : ∀ o ∈ ops, noDefer o = true) (hq : ¬ LetsOut Q) : ∀ (m : Nat) (L : Array Bool) (a : Act) (w : World), wpAny P md ops Q m L a w → wpAnyIn (Fence.wide.inRound l) n P md ops Q m L a w
  | 0, _, _, _, h => h
  | m + 1, L, a, w, h => ⟨h.1, fun i hi => by
    have := h.2 i hi
    unfold wpOp at this
    unfold wpOpIn
    split at this
    · rename_i hn; simp only [hn]; exact wpAnyIn_round hd hq m _ _ _ this
    · rename_i o ho
      simp only [ho]
      split at this
      · rename_i hw
        rw [if_pos hw]
        rcases this with t | ⟨_, t⟩
        · exact Oper.wpIn_mono (fun a' w' h' => wpAnyIn_round hd hq m _ _ _ h') (oper_round (hd o (Array.mem_of_getElem? ho)) t)
        · exact absurd t hq
      · rename_i hw
        rw [if_neg hw]
        exact ⟨fun _ _ => trivial, wpAnyIn_round hd hq m _ _ _ this⟩⟩
theorem round_class_tail {id : Nat} {a : Act} {w : World} {xs : List Oper} (m : Nat) (C : World → Prop) (hm : P.follows .mixedOrders = true) (hB : Region.lexTailB .any xs.toArray m = true) (hd : xs.all noDefer = true) (hq : ¬ LetsOut Q) (hC : C w.drew)
    (h : wpQuiet P xs.toArray C (fun a' => ∀ w', C w' → wpList P xs.toArray Q (xs.drop m) a' w') (xs.take m) a) : (Code.region id xs.toArray true).wpIn (Fence.wide.inRound l) n P Q a w :=
  wpIn_region_any hm (wpAnyIn_round (fun o ho => List.all_eq_true.1 hd o (by simpa using ho)) hq _ _ _ _ (any_class_tail m C hB hC h))
end
end Go.Proofs.YtfjbehobpkmjbaaDoor

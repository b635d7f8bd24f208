/- Regions whose order Go leaves open, whose head only computes and calls (each call leaving a world of a class), and whose end is carried out in the text's order behind all of the head: one walk serves every order. Condition: what the class keeps. -/
import Derived.Deep.Quiet
import Derived.StillTail
import Derived.BigQuiet
namespace Go.Proofs.YtfjbehobpkmjbaaDoor
open Go

section
variable {P : Program} {ops : Array Oper} {md : Region.Mode} {C : World → Prop}
/-- So many operations, each of the head, in whatever order; then L. -/
def headQ (P : Program) (md : Region.Mode) (ops : Array Oper) (C : World → Prop) (n : Nat) (L : Array Bool → Act → Prop) : Nat → Array Bool → Act → Prop
  | 0, done, a => L done a
  | m + 1, done, a => Region.ready md ops done ≠ [] ∧ ∀ j ∈ Region.ready md ops done, j < n ∧ qOp P ops C j (headQ P md ops C n L m (done.setIfInBounds j true)) a

theorem any_of_headQ {n g : Nat} {L : Array Bool → Act → Prop} {Q : Exit → Act → World → Prop} (end_ : ∀ done a w, C w → L done a → wpAny P md ops Q g done a w) (m : Nat) :
    ∀ (done : Array Bool) (a : Act) (w : World), C w → headQ P md ops C n L m done a → wpAny P md ops Q (m + g) done a w := by
  induction m with
  | zero => intro done a w hw h; rw [Nat.zero_add]; exact end_ done a w hw h
  | succ m ih =>
    intro done a w hw h
    rw [show m + 1 + g = m + g + 1 by omega]
    refine ⟨fun e => absurd e h.1, fun j hj => ?_⟩
    exact wpOp_of_qOp hw (fun a' w' hw' h' => ih _ a' w' hw' h') (h.2 j hj).2

theorem headQ_pick {n k : Nat} {o : Oper} {v : Value} {L : Array Bool → Act → Prop} (ho : ops[k]? = some o) (sel : ∀ (j : Nat) (o' : Oper) cs b, ops[j]? = some o' → o'.op ≠ .select cs b)
    (hs : Region.sinkB md ops n = true) (hc : Region.chainB md ops n = true) (hn : n < ops.size) (hk : k < n) (over : ∀ done a, L done a → ∀ j ∈ Region.ready md ops done, n ≤ j) (m : Nat) :
    ∀ (done : Array Bool) (a : Act), HeadInv md ops n done →
      (∀ j o', ops[j]? = some o' → j ≠ k → done.getD j true = false → (∀ e ∈ o'.after, Region.binds md e = true → e.on ≠ k) → o.apart ops o' = true) →
      k ∈ Region.ready md ops done → YieldsIn P ops C o v a → headQ P md ops C n L m (done.setIfInBounds k true) (a.put o.dst v) → headQ P md ops C n L (m + 1) done a := by
  induction m with
  | zero =>
    intro done a inv _ hr hy H
    refine ⟨List.ne_nil_of_mem hr, fun j hj => ?_⟩
    have lt : j < n := Nat.lt_of_not_le fun h => tail_waits hs hc hn inv _ k rfl hk (mem_ready.1 hr).1 j h hj
    refine ⟨lt, ?_⟩
    by_cases e : j = k
    · rw [e]; exact hy.qOp ho H
    · exact absurd (over _ _ H j (ready_mono hj e)) (by omega)
  | succ m ih =>
    intro done a inv free hr hy H
    have hun := (mem_ready.1 hr).1
    refine ⟨List.ne_nil_of_mem hr, fun j hj => ?_⟩
    have lt : j < n := Nat.lt_of_not_le fun h => tail_waits hs hc hn inv _ k rfl hk hun j h hj
    refine ⟨lt, ?_⟩
    by_cases e : j = k
    · rw [e]; exact hy.qOp ho H
    · obtain ⟨uj, oj, hoj, after⟩ := mem_ready.1 hj
      have no : ∀ x ∈ oj.after, Region.binds md x = true → x.on ≠ k := fun x hx hb he => by
        have := after x hx hb
        rw [he, getD_both hun] at this
        exact Bool.noConfusion this
      have both := qOp_put hoj (free j oj hoj e uj no) (fun cs b => sel k o cs b ho) (fun cs b => sel j oj cs b hoj) hy (H.2 j (ready_mono hj e)).2
      refine qOp_mono (fun a' ⟨y, z⟩ => ih (done.setIfInBounds j true) a' (inv.set hj lt) (fun i oi hi hik ui noi => ?_) (ready_mono hr (Ne.symm e)) y ?_) both
      · refine free i oi hi hik ?_ noi
        by_cases eji : j = i
        · rw [← eji]; exact uj
        · rwa [getD_set_ne true eji] at ui
      · rw [Array.setIfInBounds_comm _ _ e]; exact z

theorem headQ_walk {n g : Nat} {K : Act → Prop} (sel : Region.noSelect ops = true) (hs : Region.sinkB md ops n = true) (hc : Region.chainB md ops n = true) (hn : n < ops.size) (l : List Oper) :
    ∀ (k : Nat) (done : Array Bool) (a : Act), (∀ j, j < l.length → l[j]? = ops[k + j]?) → k + l.length = n → HeadInv md ops n done → Region.lexHead md ops g l.length k done = true → wpQuiet P ops C K l a →
    headQ P md ops C n (fun done' a' => Region.seqB md ops g n done' = true ∧ K a') l.length done a := by
  induction l with
  | nil =>
    intro k done a _ hk _ hB h
    have e : k = n := by simpa using hk
    rw [e] at hB
    exact ⟨hB, h⟩
  | cons o l ih =>
    intro k done a hl hk inv hB h
    have ho : ops[k]? = some o := by simpa using (hl 0 (by simp)).symm
    simp only [List.length_cons] at hk hB
    unfold Region.lexHead at hB
    simp only [Bool.and_eq_true] at hB
    have hr : k ∈ Region.ready md ops done := by simpa using hB.1.1
    have hq : qOp P ops C k (wpQuiet P ops C K l) a := by unfold qOp; simp only [ho]; exact h
    obtain ⟨v, hy, hK⟩ := yieldsIn_of_qOp ho hq
    refine headQ_pick ho (Region.noSelect_spec sel) hs hc hn (by omega) (fun done' a' hL => seqB_ready hL.1) l.length done a inv (Region.free_spec ho hB.1.2) hr hy ?_
    refine ih (k + 1) _ _ (fun j hj => ?_) (by omega) (inv.set hr (by omega)) hB.2 hK
    have := hl (j + 1) (by simp; omega)
    simpa [Nat.add_assoc, Nat.add_comm 1 j] using this

/-- The first n operations over the class, the rest in the text's order. -/
theorem any_class_tail {Q : Exit → Act → World → Prop} {a : Act} {w : World} {l : List Oper} (n : Nat) (C : World → Prop) (hB : Region.lexTailB .any l.toArray n = true) (hC : C w.drew)
    (h : wpQuiet P l.toArray C (fun a' => ∀ w', C w' → wpList P l.toArray Q (l.drop n) a' w') (l.take n) a) : wpAny P .any l.toArray Q l.toArray.size (Array.replicate l.toArray.size false) a w.drew := by
  unfold Region.lexTailB at hB
  simp only [Bool.and_eq_true, decide_eq_true_eq] at hB
  obtain ⟨⟨⟨⟨sel, hn⟩, hs⟩, hc⟩, lex⟩ := hB
  have hlt : n < l.length := by simpa using hn
  have ht : (l.take n).length = n := by simp; omega
  have hd : (l.drop n).length = l.toArray.size - n := by simp
  have inv : HeadInv .any l.toArray n (Array.replicate l.toArray.size false) := by
    refine ⟨by simp, fun j o _ hl => ?_, fun t _ h2 => getD_in (by simpa using h2) (getD_replicate_false _ _)⟩
    rw [getD_replicate_false] at hl; exact Bool.noConfusion hl
  have H := headQ_walk (md := .any) (g := l.toArray.size - n) sel hs hc hn (l.take n) 0 _ a (fun j hj => by simp [show j < n by omega]) (by simpa using ht) inv (by rw [ht]; exact lex) h
  have R := any_of_headQ (Q := Q) (g := l.toArray.size - n) (fun done a' w' hw' hL => by
    have := wpAny_of_seq (md := .any) (Q' := Q) (l.drop n) n done a' w' (fun j => by simp [List.getElem?_drop]) (by rw [hd]; exact hL.1) (hL.2 w' hw')
    rwa [hd] at this) _ _ _ w.drew hC H
  rw [ht, show n + (l.toArray.size - n) = l.toArray.size by omega] at R
  exact R
theorem wp_region_class_tail {id : Nat} {Q : Exit → Act → World → Prop} {a : Act} {w : World} {l : List Oper} (n : Nat) (C : World → Prop) (hm : P.follows .mixedOrders = true) (hB : Region.lexTailB .any l.toArray n = true) (hC : C w.drew)
    (h : wpQuiet P l.toArray C (fun a' => ∀ w', C w' → wpList P l.toArray Q (l.drop n) a' w') (l.take n) a) : (Code.region id l.toArray true).wp P Q a w :=
  wp_region_any hm (any_class_tail n C hB hC h)
end
end Go.Proofs.YtfjbehobpkmjbaaDoor

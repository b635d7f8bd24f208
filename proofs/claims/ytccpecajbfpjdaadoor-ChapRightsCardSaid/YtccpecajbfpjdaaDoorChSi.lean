/- Regions whose order Go leaves open, under the wide fence: the head by one order of its operations (what only computes floats), the end in the text's order, under the fence: calls of yield among it. Condition: what the class of worlds keeps. -/
import Derived.Test.YtccpecajbfpjdaaDoorDigProg
import Derived.StillTail
namespace Go.Proofs.YtccpecajbfpjdaaDoor.wideS
open Go
set_option linter.unusedVariables false

section
variable {P : Program} {ops : Array Oper} {md : Region.Mode} {C : World → Prop} {Q : Exit → Act → World → Prop} {nn : Nat}
theorem upon_wide {o : Oper} {a : Act} {K : Act → World → Prop} {r : Result Next} (h : o.upon P a K Q r) : o.uponIn Fence.wide nn P a K Q r := by
  cases r with
  | ok x w' =>
    cases x with
    | value v => exact h
    | skip => exact h
    | defer d => exact h
    | enter f args => exact ⟨fun h => by simp [Fence.wide] at h, callsIn_wide.2 h⟩
    | row row args => exact ⟨fun h => by simp [Fence.wide] at h, fun c cs _ => let ⟨v, w'', r, s⟩ := h c cs; ⟨v, w'', r, stepsIn_wide.2 s⟩⟩
    | _ => exact h.elim
  | halt x w' => cases x <;> first | exact h | exact h.elim
theorem oper_wide {o : Oper} {a : Act} {w : World} {K : Act → World → Prop} (hd : noDefer o = true) (h : o.wp P a w K Q) : o.wpIn Fence.wide nn P a w K Q :=
  ⟨fun _ _ => trivial, by rw [Oper.semAt_eq _ _ _ (noDefer_spec hd)]; exact upon_wide h⟩
/-- So many operations of the head, in whatever order; then L. -/
def headC (P : Program) (md : Region.Mode) (ops : Array Oper) (C : World → Prop) (n : Nat) (L : Array Bool → Act → World → Prop) : Nat → Array Bool → Act → World → Prop
  | 0, done, a, w => L done a w
  | m + 1, done, a, w => Region.ready md ops done ≠ [] ∧ ∀ j ∈ Region.ready md ops done, j < n ∧ stepC P ops C j (headC P md ops C n L m (done.setIfInBounds j true)) a w
theorem anyIn_of_headC {n g : Nat} {L : Array Bool → Act → World → Prop} (hd : ∀ o ∈ ops, noDefer o = true) (end_ : ∀ done a w, C w → L done a w → wpAnyIn Fence.wide nn P md ops Q g done a w) (m : Nat) :
    ∀ (done : Array Bool) (a : Act) (w : World), C w → headC P md ops C n L m done a w → wpAnyIn Fence.wide nn P md ops Q (m + g) done a w := by
  induction m with
  | zero => intro done a w hw h; rw [Nat.zero_add]; exact end_ done a w hw h
  | succ m ih =>
    intro done a w hw h
    rw [show m + 1 + g = m + g + 1 by omega]
    refine ⟨fun e => absurd e h.1, fun j hj => ?_⟩
    have hs := (h.2 j hj).2
    unfold stepC at hs
    unfold wpOpIn
    split
    · rename_i e; simp only [e] at hs; exact ih _ _ _ hw hs
    · rename_i o e
      simp only [e] at hs
      split
      · rename_i hwd; simp only [hwd, if_true] at hs
        exact oper_wide (hd o (Array.mem_of_getElem? e)) (wp_of_done (doneUpon_mono (fun u w' ⟨c, k⟩ => ih _ _ _ c k) hs))
      · rename_i hwd; simp only [hwd] at hs; exact ⟨fun _ _ => trivial, ih _ _ _ hw hs⟩
theorem headC_first {n k : Nat} {o : Oper} {v : Value} {L : Array Bool → Act → World → Prop} (ho : ops[k]? = some o) (sel : ∀ (j : Nat) (o' : Oper) cs b, ops[j]? = some o' → o'.op ≠ .select cs b)
    (hs : Region.sinkB md ops n = true) (hc : Region.chainB md ops n = true) (hn : n < ops.size) (hk : k < n) (over : ∀ done a w, L done a w → ∀ j ∈ Region.ready md ops done, n ≤ j) (m : Nat) :
    ∀ (done : Array Bool) (a : Act) (w : World), C w → HeadInv md ops n done →
      (∀ j o', ops[j]? = some o' → j ≠ k → done.getD j true = false → (∀ e ∈ o'.after, Region.binds md e = true → e.on ≠ k) → o.apart ops o' = true) →
      k ∈ Region.ready md ops done → GivesIf P ops C o a v → headC P md ops C n L m (done.setIfInBounds k true) (a.put o.dst v) w → headC P md ops C n L (m + 1) done a w := by
  induction m with
  | zero =>
    intro done a w hC inv _ hr hy H
    refine ⟨List.ne_nil_of_mem hr, fun j hj => ?_⟩
    have lt : j < n := Nat.lt_of_not_le fun h => tail_waits hs hc hn inv _ k rfl hk (mem_ready.1 hr).1 j h hj
    refine ⟨lt, ?_⟩
    by_cases e : j = k
    · rw [e]; exact hy.step ho hC H
    · exact absurd (over _ _ _ H j (ready_mono hj e)) (by omega)
  | succ m ih =>
    intro done a w hC inv free hr hy H
    have hun := (mem_ready.1 hr).1
    refine ⟨List.ne_nil_of_mem hr, fun j hj => ?_⟩
    have lt : j < n := Nat.lt_of_not_le fun h => tail_waits hs hc hn inv _ k rfl hk hun j h hj
    refine ⟨lt, ?_⟩
    by_cases e : j = k
    · rw [e]; exact hy.step ho hC H
    · obtain ⟨uj, oj, hoj, after⟩ := mem_ready.1 hj
      have no : ∀ x ∈ oj.after, Region.binds md x = true → x.on ≠ k := fun x hx hb he => by
        have := after x hx hb
        rw [he, getD_both hun] at this
        exact Bool.noConfusion this
      have both := stepC_put hoj (free j oj hoj e uj no) (fun cs b => sel k o cs b ho) (fun cs b => sel j oj cs b hoj) hy (H.2 j (ready_mono hj e)).2
      refine stepC_mono hC (fun a' w' c ⟨y, z⟩ => ih (done.setIfInBounds j true) a' w' c (inv.set hj lt) (fun i oi hi hik ui noi => ?_) (ready_mono hr (Ne.symm e)) y ?_) both
      · refine free i oi hi hik ?_ noi
        by_cases eji : j = i
        · rw [← eji]; exact uj
        · rwa [getD_set_ne true eji] at ui
      · rw [Array.setIfInBounds_comm _ _ e]; exact z
def schedH (md : Region.Mode) (ops : Array Oper) (n g : Nat) : List (Nat × Bool) → Array Bool → Bool
  | [], L => Region.seqB md ops g n L
  | (i, true) :: l, L => decide (i < n) && ((Region.ready md ops L).contains i && Region.free md ops L i && schedH md ops n g l (L.setIfInBounds i true))
  | (i, false) :: l, L => decide (i < n) && (decide (Region.ready md ops L = [i]) && schedH md ops n g l (L.setIfInBounds i true))
theorem headC_sched {n g : Nat} {R : Act → World → Prop} (sel : Region.noSelect ops = true) (hs : Region.sinkB md ops n = true) (hc : Region.chainB md ops n = true) (hn : n < ops.size) :
    ∀ (l : List (Nat × Bool)) (L : Array Bool) (a : Act) (w : World), C w → HeadInv md ops n L → schedH md ops n g l L = true → walkS P ops C R l a w → headC P md ops C n (fun done' a' w' => Region.seqB md ops g n done' = true ∧ R a' w') l.length L a w
  | [], L, a, w, _, _, hB, h => ⟨hB, h⟩
  | (i, true) :: l, L, a, w, hC, inv, hB, ⟨o, v, hi, hy, h⟩ => by
    simp only [schedH, Bool.and_eq_true, decide_eq_true_eq] at hB
    have hr : i ∈ Region.ready md ops L := by simpa using hB.2.1.1
    exact headC_first hi (Region.noSelect_spec sel) hs hc hn hB.1 (fun done' a' w' hL => seqB_ready hL.1) l.length L a w hC inv (Region.free_spec hi hB.2.1.2) hr hy
      (headC_sched sel hs hc hn l _ _ _ hC (inv.set hr hB.1) hB.2.2 h)
  | (i, false) :: l, L, a, w, hC, inv, hB, ⟨o, hi, h⟩ => by
    simp only [schedH, Bool.and_eq_true, decide_eq_true_eq] at hB
    have hr : i ∈ Region.ready md ops L := by rw [hB.2.1]; exact List.mem_singleton_self i
    refine ⟨List.ne_nil_of_mem hr, fun j hj => ?_⟩
    rw [hB.2.1] at hj
    obtain rfl : j = i := by simpa using hj
    refine ⟨hB.1, ?_⟩
    unfold stepC
    simp only [hi]
    rcases h with ⟨hw, hd⟩ | ⟨hw, hd⟩
    · rw [if_pos hw]; exact doneUpon_mono (fun u w' ⟨c, k⟩ => ⟨c, headC_sched sel hs hc hn l _ _ _ c (inv.set hr hB.1) hB.2.2 k⟩) hd
    · rw [if_neg (by simp [hw])]; exact headC_sched sel hs hc hn l _ _ _ hC (inv.set hr hB.1) hB.2.2 hd
theorem wpAnyIn_of_seq {F : Fence} : ∀ (l : List Oper) (k : Nat) (listed : Array Bool) (a : Act) (w : World), (∀ j, l[j]? = ops[k + j]?) →
    Region.seqB md ops l.length k listed = true → wpListIn F nn P ops Q l a w → wpAnyIn F nn P md ops Q l.length listed a w
  | [], _, _, _, _, _, hB, h => ⟨by simpa [Region.seqB] using hB, h⟩
  | o :: l, k, listed, a, w, hl, hB, h => by
    have h0 : ops[k]? = some o := by simpa using (hl 0).symm
    simp only [List.length_cons, Region.seqB, Bool.and_eq_true, decide_eq_true_eq] at hB
    refine ⟨fun h1 => (by rw [hB.1] at h1; cases h1), fun i hi => ?_⟩
    rw [hB.1] at hi
    have hik : i = k := by simpa using hi
    subst hik
    have hw : wpOpIn F nn P ops Q i (wpListIn F nn P ops Q l) a w := by unfold wpOpIn; simp only [h0]; exact h
    exact wpOpIn_mono (fun a' w' h' => wpAnyIn_of_seq l (i + 1) _ a' w' (fun j => by have := hl (j + 1); simpa [Nat.add_assoc, Nat.add_comm 1 j] using this) hB.2 h') hw
/-- The head by one order, the end under the fence. -/
theorem wpIn_region_sched {id n : Nat} {a : Act} {w : World} {l : List Oper} (s : List (Nat × Bool)) (C : World → Prop) (hm : P.follows .mixedOrders = true)
    (hB : (Region.noSelect l.toArray && l.all noDefer && decide (s.length = n) && decide (n < l.length) && Region.sinkB .any l.toArray n && Region.chainB .any l.toArray n && schedH .any l.toArray n (l.length - n) s (Array.replicate l.length false)) = true) (hC : C w.drew)
    (h : walkS P l.toArray C (fun a' w' => wpListIn Fence.wide nn P l.toArray Q (l.drop n) a' w') s a w.drew) : (Code.region id l.toArray true).wpIn Fence.wide nn P Q a w := by
  simp only [Bool.and_eq_true, decide_eq_true_eq] at hB
  obtain ⟨⟨⟨⟨⟨⟨sel, nd⟩, hlen⟩, hn⟩, hs⟩, hc⟩, hsc⟩ := hB
  have hn' : n < l.toArray.size := by simpa using hn
  have inv : HeadInv .any l.toArray n (Array.replicate l.toArray.size false) := by
    refine ⟨by simp, fun j o _ hl => ?_, fun t _ h2 => getD_in (by simpa using h2) (getD_replicate_false _ _)⟩
    rw [getD_replicate_false] at hl; exact Bool.noConfusion hl
  have hd : (l.drop n).length = l.length - n := by simp
  refine wpIn_region_any hm ?_
  have H := headC_sched (md := .any) (g := l.length - n) sel hs hc hn' s (Array.replicate l.length false) a w.drew hC (by simpa using inv) hsc h
  have R := anyIn_of_headC (Q := Q) (nn := nn) (g := l.length - n) (fun o ho => List.all_eq_true.1 nd o (by simpa using ho)) (fun done a' w' hw' hL => by
    have := wpAnyIn_of_seq (md := .any) (Q := Q) (nn := nn) (F := Fence.wide) (l.drop n) n done a' w' (fun j => by simp [List.getElem?_drop]) (by rw [hd]; exact hL.1) hL.2
    rwa [hd] at this) _ _ _ _ hC H
  rw [hlen, show n + (l.length - n) = l.length by omega] at R
  simpa using R
end
end Go.Proofs.YtccpecajbfpjdaaDoor.wideS

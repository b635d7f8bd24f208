/- A law for a loop over an iterator that never ends by itself: each round is numbered, the caller's invariant bounds the number, and a round leaves the loop in the end. Condition: the iterator's own contract under such an invariant. -/
import Derived.RangeFuncNested
import Derived.RangeFuncLeaves
import Derived.WalkKit
namespace Go.Proofs.Ytilfjmpoiiepkaa
open Go Go.RowKit

/-- How a round's body may be left: on to the next round; or by a jump. -/
def roundEnds (I : Nat → World → Prop) (Ix : Code → World → Prop) (i : Nat) (W : World) : Exit → Act → World → Prop
  | .normal, _, W' => KeepsOthers W W' ∧ I (i + 1) W'
  | .ret, _, W' => KeepsOthers W W' ∧ Ix .ret W'
  | .exit b, _, W' => KeepsOthers W W' ∧ Ix (.exit b) W'
  | _, _, _ => False

/-- An iterator that hands yield the i-th value in round i, for ever, as long as the caller's invariant I goes with it. -/
def ToldBy (F : Fence) (m : Nat) (P : Program) (gf : FuncId) (lb : Array Value) (enc : Nat → Array Value) (I : Nat → World → Prop) : Prop :=
  ∀ (l : Nat) (J : Nat → World → Prop) (Jx : World → Prop) (W : World), (∀ i V, J i V → I i V) →
    (∀ i V, J i V → YieldAt F (m - 1) P l (enc i) V fun e V' => (e = .returned (.bool true) ∧ J (i + 1) V') ∨ (e = .returned (.bool false) ∧ Jx V')) →
    J 0 W → CallsIn F m P gf (#[.func (.yield l) #[] #[]] ++ lb) W fun e V' => (∃ v, e = .returned v) ∧ Jx V'

theorem range_told {P : Program} {F : Fence} {n : Nat} {g : Operand} {ps : Array Tmp} {assign body : Code} {Q : Exit → Act → World → Prop} {a : Act} {w : World}
    (hro : F.round = none) (h1 : 1 ≤ n) {gf : FuncId} {lb : Array Value} (hg : a.eval g = .func (.func gf) #[] lb) (hFg : F.fn gf) (eg : ∀ args v, (callFunc gf args).run P v = .ok (.enter gf args) v)
    (enc : Nat → Array Value) (hps : ∀ i, (enc i).size = ps.size) (I : Nat → World → Prop) (Ix : Code → World → Prop)
    (hI : ∀ i W l o o', w.heap.size ≤ l → W.heap[l]? = some o → o.isCells = false → I i W → I i (W.putObj l o'))
    (hIx : ∀ c W l o o', w.heap.size ≤ l → W.heap[l]? = some o → o.isCells = false → Ix c W → Ix c (W.putObj l o'))
    (h0 : ∀ o o', I 0 ((w.alloc o).alloc o')) (hit : ToldBy F (n - 1) P gf lb enc I) (a₁ : Nat → Act)
    (hassign : ∀ l i W (K : Act → World → Prop), I i W → K (a₁ i) W →
      assign.wpIn (F.inRound l) (n - 1 - 1) P (Exit.then K (fun _ _ _ => False)) { tmps := (ps.zip (enc i)).foldl (fun t (p, v) => t.setIfInBounds p v) a.tmps, defers := [] } W)
    (hbody : ∀ l i W, w.heap.size < l → l < W.heap.size → I i W → body.wpIn (F.inRound l) (n - 1 - 1) P (roundEnds I Ix i W) (a₁ i) W)
    (hstop : ∀ D c W, w.heap.size ≤ D → Ix c W → W.heap[D]? = some (.deferred (some [])) → c.wpIn F n P Q { a with defers := { target := .collected D, args := #[] } :: a.defers } W) :
    (Code.rangeFunc g ps assign body).wpIn F n P Q a w := by
  refine wpIn_rangeFunc fun fn hfn => ?_
  rw [hro]
  generalize hD : w.heap.size = D at *
  obtain ⟨R, hR⟩ : ∃ R : LoopState → Option Code → Loop, R = fun s p => { state := s, pending := p, fn := fn, tmps := a.tmps, params := ps, assign := assign, body := body, defers := D } := ⟨_, rfl⟩
  have hRs : ∀ s p, (R s p).state = s := fun s p => by rw [hR]
  obtain ⟨V, hV⟩ : ∃ V, (w.alloc (.deferred (some []))).alloc (.loop (R .ready none)) = V := ⟨_, rfl⟩
  have hVl : V.heap[D + 1]? = some (.loop (R .ready none)) := by
    have := World.alloc_heap_new (w.alloc (.deferred (some []))) (.loop (R .ready none))
    rw [World.size_alloc, hD, hV] at this; exact this
  have hVD : V.heap[D]? = some (.deferred (some [])) := by
    have e := World.alloc_heap_new w (.deferred (some []))
    rw [hD] at e
    rw [← hV]; exact (Below.heap_alloc _ _ _ (by rw [World.size_alloc]; omega)).trans e
  refine ⟨D + 1, [{ target := .collected D, args := #[] }], V, { target := .fn (.func gf) lb, args := #[.func (.yield (D + 1)) #[] #[]] }, V, gf, #[.func (.yield (D + 1)) #[] #[]] ++ lb, V, ?_, ?_, ?_, ?_, fun _ => h1, ?_⟩
  · have e := run_enterLoop_outer (P := P) (w := w) fn a.tmps ps assign body
    rw [hD] at e; rw [e, ← hV, hR]
  · simp only [resolve, hg]; simp [go_sem]
  · intro f' hf'; simp [Target.leads] at hf'; subst hf'; exact hFg
  · simp [invoke, go_sem, eg]
  -- the iterator, under the invariant with the record and the block beside it
  refine (hit (D + 1) (fun i W => I i W ∧ W.heap[D + 1]? = some (.loop (R .ready none)) ∧ W.heap[D]? = some (.deferred (some [])))
    (fun W => ∃ c, Ix c W ∧ W.heap[D + 1]? = some (.loop (R .done (some c))) ∧ W.heap[D]? = some (.deferred (some []))) V (fun i W h => h.1) ?_ ⟨by rw [← hV]; exact h0 _ _, hVl, hVD⟩).mono ?_
  · rintro i W ⟨hi, hl, hd⟩
    have lt : D + 1 < W.heap.size := (Array.getElem?_eq_some_iff.1 hl).1
    have hy := run_yield (P := P) (args := enc i) hl (by rw [hR]; exact hps i)
    have hb := run_beginRound (P := P) hl (hRs _ _)
    generalize hB : W.putObj (D + 1) (.loop { R .ready none with state := .busy }) = B at hb
    have hBl : B.heap[D + 1]? = some (.loop { R .ready none with state := .busy }) := by rw [← hB]; exact World.putObj_heap_same lt
    have hBd : B.heap[D]? = some (.deferred (some [])) := by rw [← hB]; exact (World.putObj_heap_other (by omega)).trans hd
    have hBi : I i B := by rw [← hB]; exact hI i W _ _ _ (by omega) hl rfl hi
    have hBs : D + 1 < B.heap.size := (Array.getElem?_eq_some_iff.1 hBl).1
    -- at a round's end the record is laid back
    have back : ∀ (j : Option Code) (C : World), KeepsOthers B C → ∃ E, (Instr.endRound (D + 1) j).run P C = .ok (.bool j.isNone) E ∧ E.heap[D + 1]? = some (.loop (R (if j.isNone then .ready else .done) j)) ∧ E.heap[D]? = some (.deferred (some [])) ∧
        (∀ i, I i C → I i E) ∧ (∀ c, Ix c C → Ix c E) := fun j C hk => by
      have hCl := hk.same _ _ hBl rfl
      have hCd := hk.same _ _ hBd rfl
      refine ⟨_, run_endRound (P := P) j hCl, ?_, (World.putObj_heap_other (by omega)).trans hCd, fun i h => hI i C _ _ _ (by omega) hCl rfl h, fun c h => hIx c C _ _ _ (by omega) hCl rfl h⟩
      rw [World.putObj_heap_same (Array.getElem?_eq_some_iff.1 hCl).1, hR]
    rw [hR] at hy
    refine ⟨fn, _, assign, body, hy, roundIn_of_wpIn hfn (hassign _ i W _ hi ⟨B, hb, wpIn_mono (hbody _ i B (by omega) hBs hBi) ?_⟩)⟩
    rintro e b C hp
    cases e with
    | normal =>
      obtain ⟨E, he, e1, e2, e3, _⟩ := back none C hp.1
      exact ⟨_, E, he, .inl ⟨rfl, e3 _ hp.2, e1, e2⟩⟩
    | ret =>
      obtain ⟨E, he, e1, e2, _, e3⟩ := back (some .ret) C hp.1
      exact ⟨_, E, he, .inr ⟨rfl, _, e3 _ hp.2, e1, e2⟩⟩
    | exit k =>
      obtain ⟨E, he, e1, e2, _, e3⟩ := back (some (.exit k)) C hp.1
      exact ⟨_, E, he, .inr ⟨rfl, _, e3 _ hp.2, e1, e2⟩⟩
    | goto t => exact hp.elim
    | panic t => exact hp.elim
    | outgrown => exact hp.elim
  · rintro e W ⟨⟨v, rfl⟩, c, hc, hl, hd⟩
    have he := run_endLoop (P := P) hl (by rw [hRs]; simp)
    refine ⟨(R .done (some c)).pending, _, he, ?_⟩
    rw [show (R .done (some c)).pending = some c by rw [hR]]
    exact hstop D c _ (Nat.le_refl _) (hIx c W _ _ _ (by omega) hl rfl hc) ((World.putObj_heap_other (by omega)).trans hd)
end Go.Proofs.Ytilfjmpoiiepkaa

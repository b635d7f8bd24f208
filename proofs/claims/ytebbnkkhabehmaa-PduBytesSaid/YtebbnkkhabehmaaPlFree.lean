/- A law for a loop over an iterator that ends and makes no memory of its own: the body may make memory and write it in later rounds. Condition: the iterator's own contract; the loop's record stands. -/
import Derived.Test.YtebbnkkhabehmaaPlBase
namespace Go.Proofs.Ytebbnkkhabehmaa
open Go Go.RowKit
set_option linter.unusedVariables false
/-- All stands but the loop's record. -/
structure Save (D : Nat) (V V' : World) : Prop where
  os : V'.os = V.os
  tape : V'.tape = V.tape
  output : V'.output = V.output
  size : V.heap.size ≤ V'.heap.size
  same : ∀ k, k < V.heap.size → k ≠ D → k ≠ D + 1 → V'.heap[k]? = V.heap[k]?
theorem Save.of_below {D : Nat} {V V' : World} (h : Below V.heap.size V V') : Save D V V' := ⟨h.os, h.tape, h.output, h.size, fun k hk _ _ => h.block k hk⟩
theorem Save.put {D : Nat} (V : World) (o : Obj) : Save D V (V.putObj (D + 1) o) := ⟨rfl, rfl, rfl, by simp, fun k _ _ h => World.putObj_heap_other h⟩
/-- The loop's record stands. -/
structure Rec (D : Nat) (W W' : World) : Prop where
  size : W.heap.size ≤ W'.heap.size
  d0 : W'.heap[D]? = W.heap[D]?
  d1 : W'.heap[D + 1]? = W.heap[D + 1]?
theorem Rec.refl (D : Nat) (W : World) : Rec D W W := ⟨Nat.le_refl _, rfl, rfl⟩
theorem Rec.trans {D : Nat} {X Y Z : World} (h : Rec D X Y) (k : Rec D Y Z) : Rec D X Z := ⟨Nat.le_trans h.size k.size, k.d0.trans h.d0, k.d1.trans h.d1⟩
def roundFr (D : Nat) (I : Nat → World → Prop) (Ix : Code → World → Prop) (i : Nat) (W : World) : Exit → Act → World → Prop
  | .normal, _, W' => Rec D W W' ∧ I (i + 1) W'
  | .ret, _, W' => Rec D W W' ∧ Ix .ret W'
  | .exit b, _, W' => Rec D W W' ∧ Ix (.exit b) W'
  | _, _, _ => False
/-- An iterator that hands yield M values, one in each round, and makes no memory. -/
def GivesFr (F : Fence) (m : Nat) (P : Program) (gf : FuncId) (lb : Array Value) {X : Type} (enc : X → Array Value) (val : Nat → X) (M : Nat) (R : World → Prop) : Prop :=
  ∀ (l : Nat) (J : Nat → World → Prop) (Jx : World → Prop) (W : World), (∀ i V, J i V → R V) → (∀ i V V', J i V → Below V.heap.size V V' → J i V') → (∀ V V', Jx V → Below V.heap.size V V' → Jx V') →
    (∀ i V, i < M → W.heap.size ≤ V.heap.size → J i V → YieldAt F (m - 1) P l (enc (val i)) V fun e V' => (e = .returned (.bool true) ∧ J (i + 1) V' ∧ V.heap.size ≤ V'.heap.size) ∨ (e = .returned (.bool false) ∧ Jx V' ∧ V.heap.size ≤ V'.heap.size)) →
    J 0 W → CallsIn F m P gf (#[.func (.yield l) #[] #[]] ++ lb) W fun e V' => (∃ v, e = .returned v) ∧ (J M V' ∨ Jx V')

theorem range_free {P : Program} {F : Fence} {n : Nat} {g : Operand} {ps : Array Tmp} {assign body : Code} {Q : Exit → Act → World → Prop} {a : Act} {w : World} {X : Type}
    (hro : F.round = none) (h1 : 1 ≤ n) {gf : FuncId} {lb : Array Value} (hg : a.eval g = .func (.func gf) #[] lb) (hFg : F.fn gf) (eg : ∀ args v, (callFunc gf args).run P v = .ok (.enter gf args) v)
    (enc : X → Array Value) (val : Nat → X) (M : Nat) (R : World → Prop) (hps : ∀ x, (enc x).size = ps.size)
    (I : Nat → World → Prop) (Ix : Code → World → Prop) (hR : ∀ i V, I i V → R V)
    (hI : ∀ i V V', I i V → Save w.heap.size V V' → I i V') (hIx : ∀ c V V', Ix c V → Save w.heap.size V V' → Ix c V')
    (h0 : I 0 w) (hit : GivesFr F (n - 1) P gf lb enc val M R)
    (hround : ∀ l i W, l = w.heap.size + 1 → i < M → w.heap.size + 2 ≤ W.heap.size → I i W →
      assign.wpIn (F.inRound l) (n - 1 - 1) P (Exit.then (fun a' W' => Rec w.heap.size W W' ∧ ∀ V, V.heap.size = W'.heap.size → (∀ k, k ≠ w.heap.size + 1 → V.heap[k]? = W'.heap[k]?) → Save w.heap.size W' V →
        body.wpIn (F.inRound l) (n - 1 - 1) P (roundFr w.heap.size I Ix i V) a' V) (fun _ _ _ => False)) { tmps := (ps.zip (enc (val i))).foldl (fun t (p, v) => t.setIfInBounds p v) a.tmps, defers := [] } W)
    (hdone : ∀ D W, w.heap.size ≤ D → I M W → W.heap[D]? = some (.deferred (some [])) → Q .normal { a with defers := { target := .collected D, args := #[] } :: a.defers } W)
    (hstop : ∀ D c W, w.heap.size ≤ D → Ix c W → W.heap[D]? = some (.deferred (some [])) → c.wpIn F n P Q { a with defers := { target := .collected D, args := #[] } :: a.defers } W) :
    (Code.rangeFunc g ps assign body).wpIn F n P Q a w := by
  refine wpIn_rangeFunc fun fn hfn => ?_
  rw [hro]
  generalize hD : w.heap.size = D at *
  obtain ⟨R', hR'⟩ : ∃ R' : LoopState → Option Code → Loop, R' = fun s p => { state := s, pending := p, fn := fn, tmps := a.tmps, params := ps, assign := assign, body := body, defers := D } := ⟨_, rfl⟩
  have hRs : ∀ s p, (R' s p).state = s := fun s p => by rw [hR']
  obtain ⟨V0, hV⟩ : ∃ V0, (w.alloc (.deferred (some []))).alloc (.loop (R' .ready none)) = V0 := ⟨_, rfl⟩
  have hVs : V0.heap.size = D + 2 := by rw [← hV]; simp [hD]
  have hVl : V0.heap[D + 1]? = some (.loop (R' .ready none)) := by
    have := World.alloc_heap_new (w.alloc (.deferred (some []))) (.loop (R' .ready none))
    rw [World.size_alloc, hD, hV] at this; exact this
  have hVD : V0.heap[D]? = some (.deferred (some [])) := by
    have e := World.alloc_heap_new w (.deferred (some []))
    rw [hD] at e
    rw [← hV]; exact (Below.heap_alloc _ _ _ (by rw [World.size_alloc]; omega)).trans e
  have hVb : Below D w V0 := by
    rw [← hV]; exact ((Below.refl _ w).alloc (by omega) _).alloc (by rw [World.size_alloc]; omega) _
  refine ⟨D + 1, [{ target := .collected D, args := #[] }], V0, { target := .fn (.func gf) lb, args := #[.func (.yield (D + 1)) #[] #[]] }, V0, gf, #[.func (.yield (D + 1)) #[] #[]] ++ lb, V0, ?_, ?_, ?_, ?_, fun _ => h1, ?_⟩
  · have e := run_enterLoop_outer (P := P) (w := w) fn a.tmps ps assign body
    rw [hD] at e; rw [e, ← hV, hR']
  · simp only [resolve, hg]; simp [go_sem]
  · intro f' hf'; simp [Target.leads] at hf'; subst hf'; exact hFg
  · simp [invoke, go_sem, eg]
  refine (hit (D + 1) (fun i W => I i W ∧ W.heap[D + 1]? = some (.loop (R' .ready none)) ∧ W.heap[D]? = some (.deferred (some [])))
    (fun W => ∃ c, Ix c W ∧ W.heap[D + 1]? = some (.loop (R' .done (some c))) ∧ W.heap[D]? = some (.deferred (some []))) V0 (fun i W h => hR i W h.1)
    (fun i U U' h hb =>
      ⟨hI i U U' h.1 (.of_below hb), (hb.block _ (Array.getElem?_eq_some_iff.1 h.2.1).1).trans h.2.1, (hb.block _ (Array.getElem?_eq_some_iff.1 h.2.2).1).trans h.2.2⟩)
    (fun U U' ⟨c, h, hl, hd⟩ hb =>
      ⟨c, hIx c U U' h (.of_below hb), (hb.block _ (Array.getElem?_eq_some_iff.1 hl).1).trans hl, (hb.block _ (Array.getElem?_eq_some_iff.1 hd).1).trans hd⟩) ?_ ⟨hI 0 _ _ h0 (.of_below (by rw [hD]; exact hVb)), hVl, hVD⟩).mono ?_
  · rw [hVs]
    rintro i W hiM hWs ⟨hi, hl, hd⟩
    have hy := run_yield (P := P) (args := enc (val i)) hl (by rw [hR']; exact hps (val i))
    rw [hR'] at hy
    refine ⟨fn, _, assign, body, hy, roundIn_of_wpIn hfn (wpIn_mono (hround (D + 1) i W rfl hiM hWs hi) ?_)⟩
    rintro e a' W' hp
    cases e with
    | normal =>
      obtain ⟨hA, hp⟩ := hp
      have hl' := hA.d1.trans hl
      have hd' := hA.d0.trans hd
      have hb := run_beginRound (P := P) hl' (hRs _ _)
      generalize hB : W'.putObj (D + 1) (.loop { R' .ready none with state := .busy }) = B at hb
      have lt' : D + 1 < W'.heap.size := (Array.getElem?_eq_some_iff.1 hl').1
      have hBl : B.heap[D + 1]? = some (.loop { R' .ready none with state := .busy }) := by rw [← hB]; exact World.putObj_heap_same lt'
      have hBo : ∀ k, k ≠ D + 1 → B.heap[k]? = W'.heap[k]? := fun k hk => by rw [← hB]; exact World.putObj_heap_other (by omega)
      have hBd : B.heap[D]? = some (.deferred (some [])) := (hBo D (by omega)).trans hd'
      have hBs : B.heap.size = W'.heap.size := by rw [← hB]; simp
      have hBb : Save D W' B := by rw [← hB]; exact .put _ _
      refine ⟨B, hb, wpIn_mono (hp B hBs hBo hBb) ?_⟩
      -- at a round's end the record is laid back
      have back : ∀ (j : Option Code) (C : World), Rec D B C → ∃ E, (Instr.endRound (D + 1) j).run P C = .ok (.bool j.isNone) E ∧ E.heap[D + 1]? = some (.loop (R' (if j.isNone then .ready else .done) j)) ∧ E.heap[D]? = some (.deferred (some [])) ∧
          (∀ i, I i C → I i E) ∧ (∀ c, Ix c C → Ix c E) ∧ W.heap.size ≤ E.heap.size := fun j C hk => by
        have hCl := hk.d1.trans hBl
        have hCd := hk.d0.trans hBd
        have hCs := hk.size
        have hAs := hA.size
        refine ⟨_, run_endRound (P := P) j hCl, ?_, (World.putObj_heap_other (by omega)).trans hCd, fun i h => hI i C _ h (.put _ _), fun c h => hIx c C _ h (.put _ _), ?_⟩
        · rw [World.putObj_heap_same (Array.getElem?_eq_some_iff.1 hCl).1, hR']
        · simp; omega
      rintro e2 b C hq
      cases e2 with
      | normal =>
        obtain ⟨E, he, e1, e2, e3, _, e4⟩ := back none C hq.1
        exact ⟨_, E, he, .inl ⟨rfl, ⟨e3 _ hq.2, e1, e2⟩, e4⟩⟩
      | ret =>
        obtain ⟨E, he, e1, e2, _, e3, e4⟩ := back (some .ret) C hq.1
        exact ⟨_, E, he, .inr ⟨rfl, ⟨_, e3 _ hq.2, e1, e2⟩, e4⟩⟩
      | exit k =>
        obtain ⟨E, he, e1, e2, _, e3, e4⟩ := back (some (.exit k)) C hq.1
        exact ⟨_, E, he, .inr ⟨rfl, ⟨_, e3 _ hq.2, e1, e2⟩, e4⟩⟩
      | goto t => exact hq.elim
      | panic t => exact hq.elim
      | outgrown => exact hq.elim
    | ret => exact hp.elim
    | exit k => exact hp.elim
    | goto t => exact hp.elim
    | panic t => exact hp.elim
    | outgrown => exact hp.elim
  · rintro e W ⟨⟨v, rfl⟩, hj⟩
    rcases hj with ⟨hi, hl, hd⟩ | ⟨c, hc, hl, hd⟩
    · have he := run_endLoop (P := P) hl (by rw [hRs]; simp)
      refine ⟨(R' .ready none).pending, _, he, ?_⟩
      rw [show (R' .ready none).pending = none by rw [hR']]
      exact hdone D _ (Nat.le_refl _) (hI _ _ _ hi (.put _ _)) ((World.putObj_heap_other (by omega)).trans hd)
    · have he := run_endLoop (P := P) hl (by rw [hRs]; simp)
      refine ⟨(R' .done (some c)).pending, _, he, ?_⟩
      rw [show (R' .done (some c)).pending = some c by rw [hR']]
      exact hstop D c _ (Nat.le_refl _) (hIx c _ _ hc (.put _ _)) ((World.putObj_heap_other (by omega)).trans hd)
theorem range_free_brk {L : Nat} {P : Program} {F : Fence} {n : Nat} {g : Operand} {ps : Array Tmp} {assign body : Code} {Q : Exit → Act → World → Prop} {a : Act} {w : World} {X : Type}
    (hro : F.round = none) (h1 : 1 ≤ n) {gf : FuncId} {lb : Array Value} (hg : a.eval g = .func (.func gf) #[] lb) (hFg : F.fn gf) (eg : ∀ args v, (callFunc gf args).run P v = .ok (.enter gf args) v)
    (enc : X → Array Value) (val : Nat → X) (M : Nat) (R : World → Prop) (hps : ∀ x, (enc x).size = ps.size)
    (I : Nat → World → Prop) (J : World → Prop) (hR : ∀ i V, I i V → R V)
    (hI : ∀ i V V', I i V → Save w.heap.size V V' → I i V') (hJ : ∀ V V', J V → Save w.heap.size V V' → J V')
    (h0 : I 0 w) (hit : GivesFr F (n - 1) P gf lb enc val M R)
    (hround : ∀ l i W, l = w.heap.size + 1 → i < M → w.heap.size + 2 ≤ W.heap.size → I i W →
      assign.wpIn (F.inRound l) (n - 1 - 1) P (Exit.then (fun a' W' => Rec w.heap.size W W' ∧ ∀ V, V.heap.size = W'.heap.size → (∀ k, k ≠ w.heap.size + 1 → V.heap[k]? = W'.heap[k]?) → Save w.heap.size W' V →
        body.wpIn (F.inRound l) (n - 1 - 1) P (roundFr w.heap.size I (fun c V => c = .exit L ∧ J V) i V) a' V) (fun _ _ _ => False)) { tmps := (ps.zip (enc (val i))).foldl (fun t (p, v) => t.setIfInBounds p v) a.tmps, defers := [] } W)
    (hend : ∀ D W, w.heap.size ≤ D → (I M W ∨ J W) → W.heap[D]? = some (.deferred (some [])) → Q .normal { a with defers := { target := .collected D, args := #[] } :: a.defers } W) :
    (Code.rangeFunc g ps assign body).wpIn F n P (Exit.inBlock L Q) a w := by
  refine range_free hro h1 hg hFg eg enc val M R hps I (fun c V => c = .exit L ∧ J V) hR hI (fun c V V' h hb => ⟨h.1, hJ V V' h.2 hb⟩) h0 hit hround (fun D W hD h hd => ?_) ?_
  · exact hend D W hD (.inl h) hd
  · rintro D c W hD ⟨rfl, h⟩ hd
    refine wpIn_exit ?_
    show (if L = L then _ else _)
    rw [if_pos rfl]
    exact hend D W hD (.inr h) hd

end Go.Proofs.Ytebbnkkhabehmaa

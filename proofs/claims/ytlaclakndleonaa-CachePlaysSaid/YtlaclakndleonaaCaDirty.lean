/- The contract of citadellaw13's dirty: as many of the dirty lines as are asked for. Condition: what the cache's Dirty answers is known. -/
import Derived.Test.YtlaclakndleonaaCaSpec
import Derived.WalkMore
namespace Go.Proofs.Ytlaclakndleonaa
open Go.ChangeShapes Go.WideShapes Go.ChangeAt Go.RowKit
attribute [local go_sem] Oper.semAt_some
set_option linter.unusedVariables false
/-- As many as are asked for; below nought: all. -/
def takeD (L : List LineOf) (m : Int) : List LineOf := if m < 0 then L else L.take m.toNat
theorem takeD_len (L : List LineOf) (m : Int) : (takeD L m).length ≤ L.length := by unfold takeD; split; omega; rw [List.length_take]; omega
theorem ownL_nilrow (w : World) (base : Nat) (hb : base ≤ w.heap.size) : OwnL 42 131 lineC (w.alloc (.cells #[] 42)) base (w.heap.size + 1) (.slice (some ⟨w.heap.size, 0, none⟩) 0 0) ([] : List LineOf) := OwnL.empty _ _ _ _ _ hb
theorem OwnL.keepB {α : Type} {e : TypeId} {sz base top top' : Nat} {C : α → List Value} {w w' : World} {v : Value} {l : List α} (h : OwnL e sz C w base top v l) (hb : ∀ g, v.ownBlock = some g → g < w.heap.size → w'.heap[g]? = w.heap[g]?) (ht : ∀ g, v.ownBlock = some g → g < top') : OwnL e sz C w' base top' v l := by
  rcases h with h1 | ⟨B, c, cur, h1, h2, h3, h4, h5⟩
  · exact .inl h1
  · have hB : v.ownBlock = some B := by rw [h1]; rfl
    exact .inr ⟨B, c, cur, h1, h2, ht B hB, (hb B hB (Array.getElem?_eq_some_iff.1 h4).1).trans h4, h5⟩
/-- Between two rounds: the first i lines are in the list. -/
structure DiS (w : World) (D : Nat) (m : Int) (L : List LineOf) (T : Nat → Prop) (w4 : World) (i : Nat) (V : World) : Prop where
  le : i ≤ L.length
  lm : (i : Int) ≤ m ∨ m < 0
  most : V.cell? ⟨w.heap.size, 0, none⟩ = some (.int .i64 m)
  out : ∃ v, V.heap[w.heap.size + 2]? = some (.cells #[v] 34 (0, 0)) ∧ OwnL 42 131 lineC V (w.heap.size + 1) V.heap.size v (L.take i) ∧ ∀ g, v.ownBlock = some g → g = w.heap.size + 1 ∨ D + 2 ≤ g
  iter : ∀ k, T k → V.heap[k]? = w4.heap[k]?
  low : Below w.heap.size w V
  big : D ≤ V.heap.size
section
variable {w w4 : World} {D : Nat} {m : Int} {L : List LineOf} {T : Nat → Prop} {i : Nat} {V V' : World}
theorem DiS.save (h : DiS w D m L T w4 i V) (hs : Save D V V') (hD : w.heap.size + 3 ≤ D) (hT : ∀ k, T k → k < D) : DiS w D m L T w4 i V' := by
  have hb := h.big
  have bl : ∀ k, k < D → V'.heap[k]? = V.heap[k]? := fun k hk => hs.same k (by omega) (by omega) (by omega)
  obtain ⟨v, hv, ho, hg⟩ := h.out
  refine ⟨h.le, h.lm, (World.cell?_of_block (w := V) (a := ⟨w.heap.size, 0, none⟩) (bl w.heap.size (by omega))).trans h.most, ⟨v, (bl _ (by omega)).trans hv, ho.keepB (fun g hgv hl => ?_) (fun g hgv => Nat.lt_of_lt_of_le (ho.blockTop g hgv) hs.size), hg⟩, fun k hk => (bl k (hT k hk)).trans (h.iter k hk), ?_, Nat.le_trans h.big hs.size⟩
  · rcases hg g hgv with e | e
    · exact bl g (by omega)
    · exact hs.same g hl (by omega) (by omega)
  · have hl := h.low
    exact ⟨hs.os.trans hl.os, hs.tape.trans hl.tape, hs.output.trans hl.output, Nat.le_trans hl.size hs.size, fun k hk => (bl k (by omega)).trans (hl.block k hk)⟩
theorem DiS.push {w1 : World} {v v' : Value} {O : Obj} (h : DiS w D m L T w4 i V) (hb : D + 2 ≤ V.heap.size) (hD : w.heap.size + 3 ≤ D) (hT : ∀ k, T k → k < D ∧ (k < w.heap.size ∨ w.heap.size + 3 ≤ k)) (hlt : i < L.length) (hne : (i : Int) ≠ m)
    (hvX : V.heap[w.heap.size + 2]? = some (.cells #[v] 34 (0, 0))) (hv : ∀ g, v.ownBlock = some g → g = w.heap.size + 1 ∨ D + 2 ≤ g) (hown : OwnL 42 131 lineC w1 (w.heap.size + 1) w1.heap.size v' (L.take i ++ [lineAt L i])) (hgr : (V.alloc O).grownBy w1 v.ownBlock)
    (hat : v'.ownBlock = v.ownBlock ∨ v'.ownBlock = some (V.alloc O).heap.size) :
    (w1.cell? ⟨w.heap.size + 2, 0, none⟩ = some v ∧ w1.frozen? ⟨w.heap.size + 2, 0, none⟩ = false) ∧ Rec D V (w1.setCell ⟨w.heap.size + 2, 0, none⟩ v') ∧ DiS w D m L T w4 (i + 1) (w1.setCell ⟨w.heap.size + 2, 0, none⟩ v') := by
  have hlm := h.lm
  have hvs : V.heap.size + 1 ≤ w1.heap.size := by have := hgr.size; rwa [World.size_alloc] at this
  have bl : ∀ k, k < V.heap.size → k ≠ w.heap.size + 1 → k < D + 2 → w1.heap[k]? = V.heap[k]? := fun k hk h1 h2 =>
    (hgr.block k (by rw [World.size_alloc]; omega) (fun e => by have := hv k e.symm; omega)).trans (Below.heap_alloc _ _ _ hk)
  have hX1 := (bl (w.heap.size + 2) (by omega) (by omega) (by omega)).trans hvX
  have hsz : (w1.setCell ⟨w.heap.size + 2, 0, none⟩ v').heap.size = w1.heap.size := by simp [World.setCell]
  have oth : ∀ k, k ≠ w.heap.size + 2 → (w1.setCell ⟨w.heap.size + 2, 0, none⟩ v').heap[k]? = w1.heap[k]? := fun k hk => Below.heap_setCell _ _ _ k (fun e => hk e)
  have b2 : ∀ k, k < V.heap.size → k ≠ w.heap.size + 1 → k < D + 2 → k ≠ w.heap.size + 2 → (w1.setCell ⟨w.heap.size + 2, 0, none⟩ v').heap[k]? = V.heap[k]? := fun k hk h1 h2 h3 => (oth k h3).trans (bl k hk h1 h2)
  have hv' : ∀ g, v'.ownBlock = some g → g = w.heap.size + 1 ∨ D + 2 ≤ g := fun g hg => by
    rcases hat with e | e
    · exact hv g (e.symm.trans hg)
    · rw [e, World.size_alloc] at hg; cases hg; omega
  refine ⟨⟨cell_of_row _ _ _ _ _ _ hX1, frozen_of_row _ _ _ _ _ hX1⟩, ⟨by omega, b2 D (by omega) (by omega) (by omega) (by omega), b2 (D + 1) (by omega) (by omega) (by omega) (by omega)⟩, ⟨by omega, by omega, ?_, ⟨v', ?_, ?_, hv'⟩, fun k hk => ?_, ?_, by omega⟩⟩
  · exact (World.cell?_of_block (w := V) (a := ⟨w.heap.size, 0, none⟩) (b2 w.heap.size (by omega) (by omega) (by omega) (by omega))).trans h.most
  · exact heap_setCell_same _ _ _ _ _ _ hX1
  · rw [take_snoc hlt]
    exact hown.keepB (fun g hg hl => oth g (by have := hv' g hg; omega)) (fun g hg => by rw [hsz]; exact hown.blockTop g hg)
  · have := hT k hk
    exact (b2 k (by omega) (by omega) (by omega) (by omega)).trans (h.iter k hk)
  · have hl := h.low
    exact ⟨hgr.os.trans hl.os, hgr.tape.trans hl.tape, hgr.output.trans hl.output, by have := hl.size; omega, fun k hk => (b2 k (by have := hl.size; omega) (by omega) (by omega) (by omega)).trans (hl.block k hk)⟩
end
theorem DiS.start {w U w4 : World} {m : Int} {L : List LineOf} {T : Nat → Prop} (hm : True) (ZU : U.heap.size = w.heap.size + 3) (MU : U.heap[w.heap.size]? = some (.cells #[.int .i64 m] 3 (0, 0)))
    (EU : OwnL 42 131 lineC U (w.heap.size + 1) (w.heap.size + 2) (.slice (some ⟨w.heap.size + 1, 0, none⟩) 0 0) ([] : List LineOf)) (XU : U.heap[w.heap.size + 2]? = some (.cells #[.slice (some ⟨w.heap.size + 1, 0, none⟩) 0 0] 34 (0, 0)))
    (BU : Below w.heap.size w U) (hb : Below U.heap.size U w4) : DiS w w4.heap.size m L T w4 0 w4 := by
  have hl := hb.size
  refine ⟨by omega, by omega, (hb.cell (p := ⟨w.heap.size, 0, none⟩) (by show w.heap.size < _; omega)).trans (cell_of_row _ _ _ _ _ _ MU), ⟨_, (hb.block _ (by omega)).trans XU, ?_, fun g hg => by cases hg; exact .inl rfl⟩, fun k _ => rfl, BU.trans (hb.mono (by omega)), Nat.le_refl _⟩
  rw [List.take_zero]
  exact EU.keepB (fun g hg hl => hb.block g hl) (fun g hg => by cases hg; show w.heap.size + 1 < _; omega)
theorem own_turn {W : World} {D base top : Nat} {v : Value} {l : List LineOf} {o o' : Obj} (h : OwnL 42 131 lineC W base top v l) (hd : W.heap[D]? = some o) (ho : o.isCells = false) : OwnL 42 131 lineC (W.putObj D o') base top v l := by
  refine h.keepB (fun g hg hl => World.putObj_heap_other (fun e => ?_)) (fun g hg => h.blockTop g hg)
  rcases h with ⟨h1, _⟩ | ⟨B, c, cur, h1, h2, h3, h4, h5⟩
  · rw [h1] at hg; cases hg
  · rw [h1] at hg; cases hg
    subst e
    rw [hd] at h4
    cases h4
    simp [Obj.isCells] at ho
set_option maxRecDepth 100000 in
set_option maxHeartbeats 4000000 in
theorem dirty_any (cv : Value) (m : Int) (L : List LineOf) (hL : L.length ≤ 100000) (w : World) (hO : ∀ W, Below w.heap.size w W → Calls Try.prog 30 #[cv] W fun e w' => ∃ v T, e = .returned v ∧ LinesIter w' T L v ∧ (∀ k, T k → k < w.heap.size ∨ W.heap.size ≤ k) ∧ Below W.heap.size W w') :
    Calls Try.prog 25 #[cv, .int .i64 m] w fun e w' => ∃ v, e = .returned v ∧ OwnL 42 131 lineC w' w.heap.size w'.heap.size v (takeD L m) ∧ Below w.heap.size w w' := by
  refine (callsIn_wide (n := 3)).1 ?_
  refine callsIn_of_wp_marks Try.func25 rfl trivial ?_ rfl
  simp only [Try.ntmps25, List.size_toArray, List.length_cons, List.length_nil, Nat.reduceAdd, Nat.reduceSub, Array.replicate_succ, Array.replicate_zero, List.push_toArray, List.append_toArray, List.nil_append, List.cons_append]
  refine wpIn_wide.2 ?_
  have HO := Lib.hid hO
  have HL := Lib.hid hL
  clear hO hL
  have BU := Lib.hid (below_three w (.cells #[.int .i64 m] 3) (.cells #[] 42) (.cells #[.slice (some ⟨w.heap.size + 1, 0, none⟩) 0 0] 34))
  have ZU := Lib.hid (show (((w.alloc (.cells #[.int .i64 m] 3)).alloc (.cells #[] 42)).alloc (.cells #[.slice (some ⟨w.heap.size + 1, 0, none⟩) 0 0] 34)).heap.size = w.heap.size + 3 from by simp)
  have MU := Lib.hid (show (((w.alloc (.cells #[.int .i64 m] 3)).alloc (.cells #[] 42)).alloc (.cells #[.slice (some ⟨w.heap.size + 1, 0, none⟩) 0 0] 34)).heap[w.heap.size]? = some (.cells #[.int .i64 m] 3 (0, 0)) from by
    rw [Below.heap_alloc _ _ _ (by simp only [World.size_alloc]; omega), Below.heap_alloc _ _ _ (by simp only [World.size_alloc]; omega)]; exact heap_alloc_new _ _)
  have EU := Lib.hid (show OwnL 42 131 lineC (((w.alloc (.cells #[.int .i64 m] 3)).alloc (.cells #[] 42)).alloc (.cells #[.slice (some ⟨w.heap.size + 1, 0, none⟩) 0 0] 34)) (w.heap.size + 1) (w.heap.size + 2) (.slice (some ⟨w.heap.size + 1, 0, none⟩) 0 0) ([] : List LineOf) from by
    have h1 := ownL_nilrow (w.alloc (.cells #[.int .i64 m] 3)) (w.heap.size + 1) (by simp)
    rw [World.size_alloc] at h1
    exact h1.keepB (fun g hg hl => Below.heap_alloc _ _ _ hl) (fun g hg => by cases hg; show w.heap.size + 1 < _; omega))
  have XU := Lib.hid (show (((w.alloc (.cells #[.int .i64 m] 3)).alloc (.cells #[] 42)).alloc (.cells #[.slice (some ⟨w.heap.size + 1, 0, none⟩) 0 0] 34)).heap[w.heap.size + 2]? = some (.cells #[.slice (some ⟨w.heap.size + 1, 0, none⟩) 0 0] 34 (0, 0)) from by
    have h1 := heap_alloc_new ((w.alloc (.cells #[.int .i64 m] 3)).alloc (.cells #[] 42)) (.cells #[.slice (some ⟨w.heap.size + 1, 0, none⟩) 0 0] 34)
    rw [World.size_alloc, World.size_alloc] at h1
    exact h1)
  go_wp2_with (first
    | (refine wpList_list0 elemLine rfl rfl ?_)
    | (go_at_call 30
       generalize ((w.alloc (.cells #[.int .i64 m] 3)).alloc (.cells #[] 42)).alloc (.cells #[.slice (some ⟨w.heap.size + 1, 0, none⟩) 0 0] 34) = U at *
       refine (HO.out U BU.out).mono ?_; rintro e w4 ⟨fv, T, rfl, ⟨gf, lb, rfl, eg, hTl, hit⟩, hT, hb⟩
       have HI0 := Lib.hid (DiS.start (m := m) (L := L) (T := T) trivial ZU.out MU.out EU.out XU.out BU.out hb)
       have G4 := Lib.hid (show w.heap.size + 3 ≤ w4.heap.size from by have := ZU.out; have := hb.size; omega)
       have Q4 := Lib.hid (show ∀ k, T k → k < w4.heap.size ∧ (k < w.heap.size ∨ w.heap.size + 3 ≤ k) from fun k hk => ⟨hTl k hk, by have := ZU.out; have := hT k hk; omega⟩)
       have HIT := Lib.hid hit
       have HEG := Lib.hid eg
       clear hb BU MU EU XU HO hit hT hTl eg))
  refine (wpIn_wide (n := 3)).1 ?_
  refine range_free_brk rfl (by omega) (gf := gf) (lb := lb) rfl trivial HEG.out
    (fun l : LineOf => #[lineV l]) (fun i => lineAt L i) L.length (fun V => ∀ k, T k → V.heap[k]? = w4.heap[k]?) (fun _ => rfl)
    (fun i V => DiS w w4.heap.size m L T w4 i V) (fun V => ∃ j : Nat, (j : Int) = m ∧ DiS w w4.heap.size m L T w4 j V) ?rd ?st ?stx HI0.out HIT.out ?round ?done
  case rd => exact fun i V h => h.iter
  case st => exact fun i V V' h hs => h.save hs G4.out (fun k hk => (Q4.out k hk).1)
  case stx => exact fun V V' ⟨j, e, h⟩ hs => ⟨j, e, h.save hs G4.out (fun k hk => (Q4.out k hk).1)⟩
  case done =>
    intro D W hD hI hd
    have hj : ∃ j, L.take j = takeD L m ∧ DiS w w4.heap.size m L T w4 j W := by
      rcases hI with h | ⟨j, e, h⟩
      · refine ⟨_, ?_, h⟩
        have hlm := h.lm
        unfold takeD
        split
        · rw [List.take_length]
        · rw [List.take_length, List.take_of_length_le (by omega)]
      · refine ⟨j, ?_, h⟩
        unfold takeD
        rw [if_neg (by omega), show m.toNat = j by omega]
    obtain ⟨j, hLj, hI⟩ := hj
    obtain ⟨v, hX, ho, -⟩ := hI.out
    rw [hLj] at ho
    obtain ⟨q', c', hv5, -, -, -, -⟩ := ho.rows elemLine.len
    generalize List.length _ = n5 at hv5
    subst hv5
    have cX : W.cell? ⟨w.heap.size + 2, 0, none⟩ = some (.slice q' n5 c') := cell_of_row _ _ _ _ _ _ hX
    have HD := Lib.hid hd
    have HI := Lib.hid (show OwnL 42 131 lineC W w.heap.size W.heap.size (.slice q' n5 c') (takeD L m) ∧ Below w.heap.size w W from ⟨ho.lower (by omega), hI.low⟩)
    have G := G4.out
    clear hI hX ho hd HI0
    go_wp2
    refine ⟨by simp, .inl ⟨_, _, rfl, run_takeDeferred HD.out, ?_⟩⟩
    refine ⟨.slice q' n5 c', ?_, ⟨_, rfl, ?_, below_turn _ HI.out.2 ?_⟩⟩
    · simp [results, Try.f25, go_sem]
    · have e : (W.putObj D (.deferred none)).heap.size = W.heap.size := by simp
      rw [e]; exact own_turn HI.out.1 HD.out rfl
    · have := HI.out.2.size
      omega
  case round =>
    intro l i W hl hi hWs hI
    have HI := Lib.hid hI
    have HW := Lib.hid hWs
    clear hI hWs HI0
    obtain ⟨x, hxe⟩ : ∃ x, lineAt L i = x := ⟨_, rfl⟩
    rw [hxe]
    have HXE := Lib.hid hxe
    have HLT := Lib.hid hi
    clear hxe
    have BL := Lib.hid (box_laid W x)
    gi_wp2_with (first
      | (refine lineIn_alloc rfl rfl rfl rfl W.heap.size rfl ?_; go_simp)
      | (refine lineIn_store rfl rfl rfl _ _ rfl rfl W.heap.size rfl x noLine rfl (LineBox.alloc W noLine) ?_))
    have BX := Lib.hid BL.out.1
    have BB := Lib.hid BL.out.2.1
    have BZ := Lib.hid BL.out.2.2
    clear BL
    generalize (W.alloc (.cells (lineC noLine).toArray 42)).setRow W.heap.size (lineC x).toArray = W' at *
    refine ⟨⟨BB.out.size, BB.out.block _ (by have := HW.out; omega), BB.out.block _ (by have := HW.out; omega)⟩, fun V hVs hVk hVS => ?_⟩
    have hI := (HI.out.save (.of_below BB.out) G4.out (fun k hk => (Q4.out k hk).1)).save hVS G4.out (fun k hk => (Q4.out k hk).1)
    have BXV := Lib.hid (show LineBox V W.heap.size x from (hVk W.heap.size (by have := HW.out; omega)).trans BX.out)
    have HWV := Lib.hid (show w4.heap.size + 2 ≤ V.heap.size from by have := HW.out; have := BZ.out; omega)
    have HWL := Lib.hid (show W.heap.size < V.heap.size ∧ w4.heap.size + 2 ≤ W.heap.size from by have := HW.out; have := BZ.out; omega)
    clear hVk hVS hVs HI BX BB BZ
    obtain ⟨v, hX, ho, hg⟩ := hI.out
    have hjl := hI.le
    have cm := hI.most
    have HXX := Lib.hid hX; have HOO := Lib.hid ho; have HG := Lib.hid hg; have HIV := Lib.hid hI
    obtain ⟨q', c', hv5, -, -, -, -⟩ := ho.rows elemLine.len
    rw [show (L.take i).length = i by rw [List.length_take]; omega] at hv5
    subst hv5
    have cX : V.cell? ⟨w.heap.size + 2, 0, none⟩ = some (.slice q' i c') := cell_of_row _ _ _ _ _ _ hX
    have HLE := Lib.hid (show (L.take i).length ≤ 100000 from by have := HL.out; rw [List.length_take]; omega)
    have HVL := Lib.hid (show w.heap.size + 3 ≤ V.heap.size from by have := G4.out; have := HWV.out; omega)
    clear hI ho hg hX hjl
    by_cases hm : (i : Int) = m
    · have e1 : decide ((i : Int) = m) = true := by simp [hm]
      have e2 : ((i : Int) == m) = true := by simp [hm]
      have HM := Lib.hid hm
      clear hm
      gi_wp2
      exact ⟨Rec.refl _ _, rfl, i, HM.out, HIV.out⟩
    · have e1 : decide ((i : Int) = m) = false := by simp [hm]
      have e2 : ((i : Int) == m) = false := by simp [hm]
      have HM := Lib.hid hm
      clear hm
      gi_wp2_with (first
        | (refine lineIn_load rfl rfl rfl _ rfl W.heap.size 0 rfl x (BXV.out.range) ?_; go_simp)
        | (refine lineIn_one rfl rfl rfl _ rfl x rfl ?_; go_simp)
        | (gi_at_builtin
           refine linesIn_append rfl rfl rfl _ _ rfl (w.heap.size + 1) V.heap.size (.slice q' i c') (L.take i) [x] (some ⟨V.heap.size, 0, none⟩) 1 1 rfl rfl rfl ?h1 ?h2 ?h3 ?h4 ?h5
           case h1 => exact HOO.out.below (Nat.le_refl _) ((Below.refl _ V).alloc (Nat.le_refl _) _)
           case h2 => exact rows_line1 V x
           case h3 => have := HLE.out; rw [List.length_take] at this; simp; omega
           case h4 => have := HVL.out; simp; omega
           intro v5 w5 ho5 hg5 hr5
           obtain ⟨p5, c5, hv5, -, -, -, -⟩ := ho5.rows elemLine.len
           generalize List.length _ = n5 at hv5
           subst hv5
           obtain ⟨⟨z0, z3⟩, z1, z2⟩ := HIV.out.push HWV.out G4.out Q4.out HLT.out HM.out HXX.out HG.out (by rw [show lineAt L i = x from HXE.out]; exact ho5) hg5 hr5
           have Z1 := Lib.hid z1; have Z2 := Lib.hid z2
           clear z1 z2 ho5 hg5 hr5
           go_simp))
      exact ⟨Z1.out, Z2.out⟩
end Go.Proofs.Ytlaclakndleonaa

/- The contract of citadellaw09.open: the open sectors, as many as are asked for. Condition: what Open answers is known. -/
import Derived.Test.YtbejfpdkfpgipaaPlVals
import Derived.Maps.OwnIn
import Derived.WalkMore
namespace Go.Proofs.Ytbejfpdkfpgipaa
open Go.ChangeShapes Go.WideShapes Go.ChangeAt Go.RowKit Go.Maps Go.Sort
attribute [local go_sem] Oper.semAt_some
set_option linter.unusedVariables false
theorem ownsRow_empty (w : World) (base : Nat) (hb : base ≤ w.heap.size) (e : TypeId) : (w.alloc (.cells #[] e)).ownsRow base e 1 (.slice (some ⟨w.heap.size, 0, none⟩) 0 0) 0 [] := by
  refine ⟨by simp, .inr ⟨w.heap.size, 0, #[], rfl, hb, heap_alloc_new _ _, ?_⟩⟩
  simp
theorem intInfo4 : ∃ i, Try.prog.info? 3 = some i ∧ i.zero = some (.int .i64 0) ∧ i.size = 1 ∧ i.bytes = 8 := by
  have hi : (Try.prog.info? 3).map (fun i => (i.zero, i.size, i.bytes)) = some (some (.int .i64 0), 1, 8) := by kernel_rfl
  cases hq : Try.prog.info? 3 with
  | none => rw [hq] at hi; simp at hi
  | some i =>
    rw [hq] at hi
    simp only [Option.map_some, Option.some.injEq, Prod.mk.injEq] at hi
    exact ⟨i, rfl, hi.1, hi.2.1, hi.2.2⟩
/-- Between two rounds: the first i numbers are in the list. -/
structure LoS (w : World) (S E X C D : Nat) (q : Option Addr) (c : Nat) (L : List Int) (m i : Nat) (V : World) : Prop where
  le : i ≤ L.length
  lm : i ≤ m
  most : V.cell? ⟨S, 0, none⟩ = some (.int .i64 m)
  out : ∃ v, V.heap[X]? = some (.cells #[v] 35 (0, 0)) ∧ V.ownsRow w.heap.size 3 1 v i ((L.take i).map encZ) ∧ ∀ g, v.ownBlock = some g → g = E ∨ D + 2 ≤ g
  box : BoxQ V C q c L
  low : Below w.heap.size w V
  big : D ≤ V.heap.size
theorem take_more (L : List Int) {i : Nat} (h : i < L.length) : (L.take (i + 1)).map encZ = (L.take i).map encZ ++ [encZ (L.getD i 0)] := by
  rw [take_step L h, List.map_append]; rfl
theorem ownsRow_save {w : World} {base n : Nat} {v : Value} {xs : List Value} {e : TypeId} {w' : World} (h : w.ownsRow base e 1 v n xs) (hb : ∀ g, v.ownBlock = some g → g < w.heap.size → w'.heap[g]? = w.heap[g]?) : w'.ownsRow base e 1 v n xs := by
  obtain ⟨h1, h2⟩ := h
  refine ⟨h1, ?_⟩
  rcases h2 with h2 | ⟨g, cap, cur, rfl, hg, hh, r⟩
  · exact .inl h2
  · exact .inr ⟨g, cap, cur, rfl, hg, (hb g rfl (Array.getElem?_eq_some_iff.1 hh).1).trans hh, r⟩
theorem LoS.save {w : World} {S E X C D : Nat} {q : Option Addr} {c : Nat} {L : List Int} {m i : Nat} {V V' : World} (h : LoS w S E X C D q c L m i V) (hs : Save D V V') (h1 : S < D) (h2 : E < D) (h3 : X < D) (h4 : C < D) (h5 : ∀ B o, q = some ⟨B, o, none⟩ → L ≠ [] → B < D) (h6 : w.heap.size ≤ D) : LoS w S E X C D q c L m i V' := by
  have hb := h.big
  have bl : ∀ k, k < D → V'.heap[k]? = V.heap[k]? := fun k hk => hs.same k (by omega) (by omega) (by omega)
  obtain ⟨v, hv, ho, hg⟩ := h.out
  refine ⟨h.le, h.lm, (World.cell?_of_block (w := V) (a := ⟨S, 0, none⟩) (bl S h1)).trans h.most, ⟨v, (bl X h3).trans hv, ownsRow_save ho (fun g hgv hl => ?_), hg⟩, ⟨(World.cell?_of_block (w := V) (a := ⟨C, 0, none⟩) (bl C h4)).trans h.box.1, ?_⟩, ?_, Nat.le_trans h.big hs.size⟩
  · rcases hg g hgv with e | e
    · rw [e]; exact bl E h2
    · exact hs.same g hl (by omega) (by omega)
  · by_cases hne : L = []
    · exact .inl hne
    · exact h.box.2.keep hs.size fun B o e hB => bl B (h5 B o e hne)
  · have hl := h.low
    exact ⟨hs.os.trans hl.os, hs.tape.trans hl.tape, hs.output.trans hl.output, Nat.le_trans hl.size hs.size, fun k hk => (bl k (by omega)).trans (hl.block k hk)⟩
theorem ints_turn {W : World} {D : Nat} {q : Option Addr} {L : List Int} {o o' : Obj} (h : IntsAt W q L) (hd : W.heap[D]? = some o) (ho : o.isCells = false) : IntsAt (W.putObj D o') q L := by
  rcases h with h | ⟨B, off, rfl, hB, hc⟩
  · exact .inl h
  · by_cases hl : L = []
    · exact .inl hl
    · have h0 := hc 0 (List.length_pos_iff.2 hl)
      have hne : B ≠ D := fun e => by
        subst e
        cases o <;> simp [World.cell?, hd, Obj.isCells] at h0 ho
      refine .inr ⟨B, off, rfl, by simpa using hB, fun j hj => ?_⟩
      exact (World.cell?_of_block (w := W) (a := ⟨B, off + j, none⟩) (World.putObj_heap_other hne)).trans (hc j hj)
theorem setCell_one {w : World} {b : Nat} {v : Value} {t : TypeId} (h : w.heap[b]? = some (.cells #[v] t (0, 0))) (v' : Value) : w.setCell ⟨b, 0, none⟩ v' = w.putObj b (.cells #[v'] t (0, 0)) := by
  have e : (w.heap.modify b fun x => match x with | .cells c elem frozen => .cells (c.setIfInBounds 0 v') elem frozen | o => o) = w.heap.setIfInBounds b (.cells #[v'] t) := by
    refine Array.ext_getElem? fun k => ?_
    rw [Array.getElem?_modify, Array.getElem?_setIfInBounds]
    split
    · rename_i hk; subst hk; rw [h]; simp [(Array.getElem?_eq_some_iff.1 h).1]
    · rfl
  exact congrArg (fun z => { w with heap := z }) e
theorem LoS.push {w : World} {C D : Nat} {q : Option Addr} {c : Nat} {L : List Int} {m i : Nat} {V w1 : World} {v v' : Value} {O : Obj} (h : LoS w w.heap.size (w.heap.size + 1) (w.heap.size + 2) C D q c L m i V) (hb : D + 2 ≤ V.heap.size) (hlt : i < L.length) (hne : i ≠ m)
    (hvX : V.heap[w.heap.size + 2]? = some (.cells #[v] 35 (0, 0))) (hv : ∀ g, v.ownBlock = some g → g = w.heap.size + 1 ∨ D + 2 ≤ g) (hown : w1.ownsRow w.heap.size 3 1 v' (i + 1) ((L.take i).map encZ ++ [encZ (L.getD i 0)])) (hgr : (V.alloc O).grownBy w1 v.ownBlock)
    (hat : v'.ownBlock = v.ownBlock ∨ v'.ownBlock = some (V.alloc O).heap.size) (hC : w.heap.size + 3 ≤ C ∧ C < D) (hB : ∀ B o, q = some ⟨B, o, none⟩ → L ≠ [] → B < D ∧ w.heap.size + 3 ≤ B) :
    (w1.cell? ⟨w.heap.size + 2, 0, none⟩ = some v ∧ w1.frozen? ⟨w.heap.size + 2, 0, none⟩ = false) ∧ Rec D V (w1.setCell ⟨w.heap.size + 2, 0, none⟩ v') ∧ LoS w w.heap.size (w.heap.size + 1) (w.heap.size + 2) C D q c L m (i + 1) (w1.setCell ⟨w.heap.size + 2, 0, none⟩ v') := by
  have hlm := h.lm
  have hvs : V.heap.size + 1 ≤ w1.heap.size := by have := hgr.size; rwa [World.size_alloc] at this
  have hX : w.heap.size + 2 < w1.heap.size := by omega
  have bl : ∀ k, k < V.heap.size → k ≠ w.heap.size + 1 → k < D + 2 → w1.heap[k]? = V.heap[k]? := fun k hk h1 h2 =>
    (hgr.block k (by rw [World.size_alloc]; omega) (fun e => by have := hv k e.symm; omega)).trans (Below.heap_alloc _ _ _ hk)
  have hX1 := (bl (w.heap.size + 2) (by omega) (by omega) (by omega)).trans hvX
  rw [setCell_one hX1]
  refine ⟨⟨box_cell hX1, by simp [World.frozen?, hX1]⟩, ?_⟩
  have b2 : ∀ k, k < V.heap.size → k ≠ w.heap.size + 1 → k < D + 2 → k ≠ w.heap.size + 2 → (w1.putObj (w.heap.size + 2) (.cells #[v'] 35 (0, 0))).heap[k]? = V.heap[k]? := fun k hk h1 h2 h3 =>
    (World.putObj_heap_other h3).trans (bl k hk h1 h2)
  refine ⟨⟨by simp; omega, b2 D (by omega) (by omega) (by omega) (by omega), b2 (D + 1) (by omega) (by omega) (by omega) (by omega)⟩, ⟨by omega, by omega, ?_, ?_, ⟨?_, ?_⟩, ?_, by simp; omega⟩⟩
  · exact (World.cell?_of_block (w := V) (a := ⟨w.heap.size, 0, none⟩) (b2 w.heap.size (by omega) (by omega) (by omega) (by omega))).trans h.most
  · refine ⟨v', World.putObj_heap_same hX, ?_, ?_⟩
    · rw [take_more L hlt]
      refine ownsRow_save hown (fun g hg hl => World.putObj_heap_other ?_)
      rcases hat with e | e
      · have := hv g (e.symm.trans hg); omega
      · rw [e, World.size_alloc] at hg; cases hg; omega
    · intro g hg
      rcases hat with e | e
      · exact hv g (e.symm.trans hg)
      · rw [e, World.size_alloc] at hg; cases hg; omega
  · exact (World.cell?_of_block (w := V) (a := ⟨C, 0, none⟩) (b2 C (by omega) (by omega) (by omega) (by omega))).trans h.box.1
  · by_cases hn : L = []
    · exact .inl hn
    · exact h.box.2.keep (by simp; omega) fun B o e hlB => by
        have := hB B o e hn
        exact b2 B hlB (by omega) (by omega) (by omega)
  · have hl := h.low
    exact ⟨hgr.os.trans hl.os, hgr.tape.trans hl.tape, hgr.output.trans hl.output, by simp; have := hl.size; omega, fun k hk => (b2 k (by omega) (by omega) (by omega) (by omega)).trans (hl.block k hk)⟩
theorem LoS.start {w U w4 : World} {C c m : Nat} {q : Option Addr} {L : List Int} (ZU : U.heap.size = w.heap.size + 3) (MU : U.heap[w.heap.size]? = some (.cells #[.int .i64 m] 3 (0, 0)))
    (EU : U.ownsRow w.heap.size 3 1 (.slice (some ⟨w.heap.size + 1, 0, none⟩) 0 0) 0 []) (XU : U.heap[w.heap.size + 2]? = some (.cells #[.slice (some ⟨w.heap.size + 1, 0, none⟩) 0 0] 35 (0, 0)))
    (BU : Below w.heap.size w U) (hb : Below U.heap.size U w4) (hbx : BoxQ w4 C q c L) {D : Nat} (h0 : w4.heap.size = D) : LoS w w.heap.size (w.heap.size + 1) (w.heap.size + 2) C D q c L m 0 w4 := by
  subst h0
  have hl := hb.size
  exact ⟨by omega, by omega, (hb.cell (p := ⟨w.heap.size, 0, none⟩) (by show w.heap.size < _; omega)).trans (box_cell MU), ⟨_, (hb.block _ (by omega)).trans XU, ownsRow_save EU (fun g hg hl => hb.block g hl), fun g hg => by cases hg; exact .inl rfl⟩, hbx, BU.trans (hb.mono (by omega)), Nat.le_refl _⟩
set_option maxRecDepth 100000 in
set_option maxHeartbeats 4000000 in
theorem open_any (pv : Value) (m : Nat) (L : List Int) (hL : L.length ≤ 100000) (w : World) (hO : ∀ W, Below w.heap.size w W → Calls Try.prog 54 #[pv] W fun e w' => ∃ C, e = .returned (.func (.func 61) #[] #[.pointer (some ⟨C, 0, none⟩)]) ∧ BoxI W.heap.size w' C L ∧ Below W.heap.size W w') :
    Calls Try.prog 36 #[pv, .int .i64 m] w fun e w' => (∃ q c, e = .returned (.slice q (L.take m).length c) ∧ IntsAt w' q (L.take m)) ∧ Below w.heap.size w w' := by
  refine (callsIn_wide (n := 3)).1 ?_
  refine callsIn_of_wp_marks Try.func36 rfl trivial ?_ rfl
  simp only [Try.ntmps36, List.size_toArray, List.length_cons, List.length_nil, Nat.reduceAdd, Nat.reduceSub, Array.replicate_succ, Array.replicate_zero, List.push_toArray, List.append_toArray, List.nil_append, List.cons_append]
  refine wpIn_wide.2 ?_
  have HO := Lib.hid hO
  have HL := Lib.hid hL
  clear hO hL
  have BU := Lib.hid (below_three w (.cells #[.int .i64 m] 3) (.cells #[] 3) (.cells #[.slice (some ⟨w.heap.size + 1, 0, none⟩) 0 0] 35))
  have ZU := Lib.hid (show (((w.alloc (.cells #[.int .i64 m] 3)).alloc (.cells #[] 3)).alloc (.cells #[.slice (some ⟨w.heap.size + 1, 0, none⟩) 0 0] 35)).heap.size = w.heap.size + 3 from by simp)
  have MU := Lib.hid (show (((w.alloc (.cells #[.int .i64 m] 3)).alloc (.cells #[] 3)).alloc (.cells #[.slice (some ⟨w.heap.size + 1, 0, none⟩) 0 0] 35)).heap[w.heap.size]? = some (.cells #[.int .i64 m] 3 (0, 0)) from by
    rw [Below.heap_alloc _ _ _ (by simp only [World.size_alloc]; omega), Below.heap_alloc _ _ _ (by simp only [World.size_alloc]; omega)]; exact heap_alloc_new _ _)
  have EU := Lib.hid (show (((w.alloc (.cells #[.int .i64 m] 3)).alloc (.cells #[] 3)).alloc (.cells #[.slice (some ⟨w.heap.size + 1, 0, none⟩) 0 0] 35)).ownsRow w.heap.size 3 1 (.slice (some ⟨w.heap.size + 1, 0, none⟩) 0 0) 0 [] from by
    have h1 := ownsRow_empty (w.alloc (.cells #[.int .i64 m] 3)) w.heap.size (by simp) 3
    rw [World.size_alloc] at h1
    exact ownsRow_save h1 (fun g hg hl => Below.heap_alloc _ _ _ hl))
  have XU := Lib.hid (show (((w.alloc (.cells #[.int .i64 m] 3)).alloc (.cells #[] 3)).alloc (.cells #[.slice (some ⟨w.heap.size + 1, 0, none⟩) 0 0] 35)).heap[w.heap.size + 2]? = some (.cells #[.slice (some ⟨w.heap.size + 1, 0, none⟩) 0 0] 35 (0, 0)) from by
    have h1 := heap_alloc_new ((w.alloc (.cells #[.int .i64 m] 3)).alloc (.cells #[] 3)) (.cells #[.slice (some ⟨w.heap.size + 1, 0, none⟩) 0 0] 35)
    rw [World.size_alloc, World.size_alloc] at h1
    exact h1)
  go_wp2_with (first
    | (go_at_call 54
       generalize ((w.alloc (.cells #[.int .i64 m] 3)).alloc (.cells #[] 3)).alloc (.cells #[.slice (some ⟨w.heap.size + 1, 0, none⟩) 0 0] 35) = U at *
       refine (HO.out U BU.out).mono ?_; rintro e w4 ⟨C, rfl, ⟨q, c, hbx, hC, hCU, hq⟩, hb⟩
       have s4 := hb.size
       have I0 := LoS.start (m := m) ZU.out MU.out EU.out XU.out BU.out hb hbx rfl
       have HI0 := Lib.hid I0
       have G4 := Lib.hid (show w.heap.size + 3 ≤ C ∧ C < w4.heap.size from ⟨by have := ZU.out; omega, hC⟩)
       have Q4 := Lib.hid (show ∀ B o, q = some ⟨B, o, none⟩ → L ≠ [] → B < w4.heap.size ∧ w.heap.size + 3 ≤ B from fun B o e hne => by
         have := ZU.out
         rcases hbx.2 with h0 | ⟨B', o', e', hB', _⟩
         · exact absurd h0 hne
         · rw [e] at e'; have : B = B' := by cases e'; rfl
           have := hq B o e
           omega)
       clear hbx hC hCU hq hb s4 I0 BU MU EU XU HO))
  refine (wpIn_wide (n := 3)).1 ?_
  refine range_free_brk rfl (by omega) (gf := 61) (lb := #[.pointer (some ⟨C, 0, none⟩)]) rfl trivial (enters_of Try.func61 (by kernel_rfl) rfl)
    (valE L) (fun i => i) L.length (fun V => BoxQ V C q c L) (fun _ => rfl)
    (fun i V => LoS w w.heap.size (w.heap.size + 1) (w.heap.size + 2) C w4.heap.size q c L m i V) (fun V => LoS w w.heap.size (w.heap.size + 1) (w.heap.size + 2) C w4.heap.size q c L m m V) ?rd ?st ?stx HI0.out (values_gives _ C q c L HL.out) ?round ?done
  case rd => exact fun i V h => h.box
  case st => exact fun i V V' h hs => h.save hs (by have := G4.out; omega) (by have := G4.out; omega) (by have := G4.out; omega) G4.out.2 (fun B o e hne => (Q4.out B o e hne).1) (by have := G4.out; omega)
  case stx => exact fun V V' h hs => h.save hs (by have := G4.out; omega) (by have := G4.out; omega) (by have := G4.out; omega) G4.out.2 (fun B o e hne => (Q4.out B o e hne).1) (by have := G4.out; omega)
  case done =>
    intro D W hD hI hd
    have hj : ∃ j, L.take j = L.take m ∧ LoS w w.heap.size (w.heap.size + 1) (w.heap.size + 2) C w4.heap.size q c L m j W := by
      rcases hI with h | h
      · exact ⟨_, by rw [List.take_of_length_le (Nat.le_refl _), List.take_of_length_le h.lm], h⟩
      · exact ⟨m, rfl, h⟩
    obtain ⟨j, hLj, hI⟩ := hj
    obtain ⟨v, hX, ho, -⟩ := hI.out
    have hjl := hI.le
    obtain ⟨q', c', rfl, hi', -⟩ := ints_of_owns ho (by rw [List.length_take]; omega)
    have cX := box_cell hX
    have HD := Lib.hid hd
    have HI := Lib.hid (show IntsAt W q' (L.take m) ∧ Below w.heap.size w W from ⟨hLj ▸ hi', hI.low⟩)
    rw [hLj] at cX
    have G := G4.out
    clear hI hX ho hi' hd HI0
    go_wp2
    refine ⟨by simp, .inl ⟨_, _, rfl, run_takeDeferred HD.out, ?_⟩⟩
    refine ⟨.slice q' (List.take m L).length c', ?_, ⟨_, _, rfl, ints_turn HI.out.1 HD.out rfl⟩, below_turn _ HI.out.2 ?_⟩
    · simp [results, Try.f36, go_sem]
    · have := HI.out.2.size
      omega
  case round =>
    intro l i W hl hi hWs hI
    have HI := Lib.hid hI
    have HW := Lib.hid hWs
    have HX := Lib.hid (take_more L hi)
    clear hI hWs HI0
    unfold valE
    obtain ⟨x, hxe⟩ : ∃ x, L.getD i 0 = x := ⟨_, rfl⟩
    rw [hxe]
    have HXE := Lib.hid hxe
    have HLT := Lib.hid hi
    clear hxe
    gi_wp2
    refine ⟨Rec.refl _ _, fun V hVs hVk hVS => ?_⟩
    have hI := HI.out.save hVS (by have := G4.out; omega) (by have := G4.out; omega) (by have := G4.out; omega) G4.out.2 (fun B o e hne => (Q4.out B o e hne).1) (by have := G4.out; omega)
    have hW := HW.out
    rw [← hVs] at hW
    clear hVk hVS hVs HI HW
    obtain ⟨v, hX, ho, hg⟩ := hI.out
    have hjl := hI.le
    have cm := hI.most
    obtain ⟨q', c', rfl, -, -⟩ := ints_of_owns ho (by rw [List.length_take]; omega)
    rw [show (L.take i).length = i by rw [List.length_take]; omega] at *
    have cX := box_cell hX
    have HXX := Lib.hid hX; have HO := Lib.hid ho; have HG := Lib.hid hg; have HI := Lib.hid hI; have HW := Lib.hid hW
    have HN := Lib.hid (show ∀ j u, [Value.int .i64 x][j]? = some u → (V.alloc (.cells #[.int .i64 x] 3)).cell? ((⟨V.heap.size, 0, none⟩ : Addr).add j) = some u from fun j u hj => by
      rcases j with _ | j
      · simp at hj; subst hj; exact box_cell (heap_alloc_new _ _)
      · simp at hj)
    have LU := Lib.hid (show i < 100000 from by have := HL.out; omega)
    clear hI ho hg hX hW
    by_cases hm : i = m
    · subst hm
      gi_wp2
      exact ⟨Rec.refl _ _, rfl, HI.out⟩
    · have hm' : ¬ (i : Int) = (m : Int) := by omega
      have hm2 : ((i : Int) == (m : Int)) = false := by simp [hm']
      obtain ⟨ti, hti, htz, hts, htb⟩ := intInfo4
      gi_wp2_with (first
        | (gi_at_builtin
           refine wpListIn_append_own_at _ rfl _ _ 35 rfl w.heap.size 3 ti (.int .i64 0) 1 8 (by rfl) hti htz hts htb rfl (by omega) (.slice q' i c') i ((L.take i).map encZ) rfl (ownsRow_save HO.out (fun g hg hl => Below.heap_alloc _ _ _ hl)) ⟨V.heap.size, 0, none⟩ 1 1 [.int .i64 x] rfl (by simp) HN.out (by simp [Value.oneCell']) (by have := LU.out; simp only [maxLen]; omega) (by have := LU.out; omega) (by have := HI.out.low.size; simp; omega) ?_
           intro v' w1 hown hgr _ hat
           obtain ⟨q2, c2, hv2, -, -⟩ := ints_of_owns (L := L.take i ++ [x]) (by rw [List.map_append]; exact hown) (by have := HI.out.le; simp; omega)
           rw [show (L.take i ++ [x]).length = i + 1 by have := HI.out.le; simp; omega] at hv2
           subst hv2
           obtain ⟨⟨z0, z3⟩, z1, z2⟩ := HI.out.push HW.out HLT.out hm HXX.out HG.out (by rw [show L.getD i 0 = x from HXE.out]; exact hown) hgr hat G4.out Q4.out
           have Z1 := Lib.hid z1; have Z2 := Lib.hid z2
           clear z1 z2 hown hgr hat))
      exact ⟨Z1.out, Z2.out⟩
end Go.Proofs.Ytbejfpdkfpgipaa

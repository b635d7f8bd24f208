/- The contract of Clean. Conditions: the cache lies in memory, its lines are good. -/
import Derived.Test.YtlaclakndleonaaCmDrop
import Derived.Test.YtlaclakndleonaaPlFree
namespace Go.Proofs.Ytlaclakndleonaa
open Go.ChangeShapes Go.WideShapes Go.ChangeAt Go.RowKit
set_option linter.unusedVariables false
section
variable {P : Program} {Q : Exit → Act → World → Prop} {l n : Nat}
theorem roundIn_sched {id : Nat} {a : Act} {w : World} {xs : List Oper} (s : List (Nat × Bool)) (C : World → Prop) (hm : P.follows .mixedOrders = true) (hB : (Region.noSelect xs.toArray && decide (s.length = xs.length) && schedB .any xs.toArray s (Array.replicate xs.length false)) = true) (hd : xs.all noDefer = true) (hq : ¬ LetsOut Q) (hC : C w.drew)
    (h : walkS P xs.toArray C (fun a' w' => Q .normal a' w') s a w.drew) : (Code.region id xs.toArray true).wpIn (Fence.wide.inRound l) n P Q a w := by
  simp only [Bool.and_eq_true, decide_eq_true_eq] at hB
  refine wpIn_region_any hm (wpAnyIn_round (fun o ho => List.all_eq_true.1 hd o (by simpa using ho)) hq _ _ _ _ ?_)
  have := any_of_anyC (Q := Q) (fun a w _ h => h) _ _ _ _ hC (anyC_sched (md := .any) hB.1.1 s _ a w.drew hC hB.2 h)
  rw [hB.1.2] at this
  simpa using this
end
theorem Dirty_ok {w : World} {B M : Nat} {q : Int} {v : Value} {ls : List LineOf} (h : CS w B M q v ls (keysL ls)) (g : GoodL q ls) :
    Calls Try.prog 30 #[.pointer (some ⟨B, 0, none⟩)] w fun e w' => ∃ v' T, e = .returned v' ∧ LinesIter w' T (dirtyL ls) v' ∧ (∀ k, T k → w.heap.size ≤ k) ∧ Below w.heap.size w w' := by
  have HLI := Lib.hid (Lines_any h g)
  have HL8 := Lib.hid (show ls.length ≤ 100 from by have := g.few; have := g.high; omega)
  clear h g
  go_enter Try.func30, Try.ntmps30
  go_wp2_with (go_at_call 22; refine HLI.out.mono ?_; rintro e w1 ⟨v1, rfl, ho, hb⟩
               have HIT := Lib.hid (lines_iter ho HL8.out)
               have HT := Lib.hid (show ∀ k, (k = w1.heap.size ∨ v1.ownBlock = some k) → w.heap.size ≤ k from fun k hk => by
                 rcases hk with rfl | hk
                 · exact hb.size
                 · exact ho.block k hk)
               have HB := Lib.hid (hb.alloc hb.size (.cells #[v1] 34))
               obtain ⟨p, cap, hv, -, -, -, -⟩ := ho.rows elemLine.len
               generalize List.length _ = n at hv
               subst hv
               clear ho hb)
  go_ret
  exact ⟨_, _, rfl, HIT.out, HT.out, HB.out⟩
theorem Dirty_nil (w : World) : Calls Try.prog 30 #[.pointer none] w fun e w' => ∃ v' T, e = .returned v' ∧ LinesIter w' T [] v' ∧ (∀ k, T k → w.heap.size ≤ k) ∧ Below w.heap.size w w' := by
  have HLI := Lib.hid (Lines_nil w)
  have HIT := Lib.hid (lines_iter (OwnL.nil (α := LineOf) 42 131 lineC w w.heap.size w.heap.size) (by simp))
  have HB := Lib.hid ((Below.refl w.heap.size w).alloc (Nat.le_refl _) (.cells #[.slice none 0 0] 34))
  go_enter Try.func30, Try.ntmps30
  go_wp2_with (go_at_call 22; refine HLI.out.mono ?_; rintro e w1 ⟨rfl, rfl⟩)
  go_ret
  exact ⟨_, _, rfl, HIT.out, fun k hk => by
    rcases hk with rfl | hk
    · exact Nat.le_refl _
    · simp [Value.ownBlock] at hk, HB.out⟩
/-! ### What is cleaned so far -/
/-- A line that is clean. -/
def clr (l : LineOf) : LineOf := { l with d := false }
/-- The lines behind i rounds: the first i of the dirty ones are clean. -/
def clrF (ls : List LineOf) (i : Nat) (u c : Int) : LineOf := if (u, c) ∈ (keysL (dirtyL ls)).take i then clr (gotL ls u c) else gotL ls u c
def hasF (ls : List LineOf) (u c : Int) : Bool := decide (findL ls u c < ls.length)
theorem clrF_zero (ls : List LineOf) (u c : Int) : clrF ls 0 u c = gotL ls u c := by unfold clrF; simp
theorem dirty_mem {ls : List LineOf} {i : Nat} (hi : i < (dirtyL ls).length) : lineAt (dirtyL ls) i ∈ ls ∧ (lineAt (dirtyL ls) i).d = true := by
  have := lineAt_mem hi
  exact ⟨(List.mem_filter.1 this).1, (List.mem_filter.1 this).2⟩
theorem clrF_step {ls : List LineOf} (ha : Apart ls) {i : Nat} (hi : i < (dirtyL ls).length) (u c : Int) : (if u = (lineAt (dirtyL ls) i).u ∧ c = (lineAt (dirtyL ls) i).b then clr (lineAt (dirtyL ls) i) else clrF ls i u c) = clrF ls (i + 1) u c := by
  have hk : (keysL (dirtyL ls))[i]? = some ((lineAt (dirtyL ls) i).u, (lineAt (dirtyL ls) i).b) := by
    unfold keysL
    rw [List.getElem?_map, lineAt_get hi]; rfl
  have ht : (keysL (dirtyL ls)).take (i + 1) = (keysL (dirtyL ls)).take i ++ [((lineAt (dirtyL ls) i).u, (lineAt (dirtyL ls) i).b)] := by
    rw [List.take_add_one, hk]; rfl
  have hm := dirty_mem hi
  unfold clrF
  rw [ht]
  generalize lineAt (dirtyL ls) i = x at *
  by_cases he : u = x.u ∧ c = x.b
  · obtain ⟨rfl, rfl⟩ := he
    rw [if_pos ⟨rfl, rfl⟩, if_pos (by simp), got_one ha hm.1 (LineOf.is_iff.2 ⟨rfl, rfl⟩)]
  · rw [if_neg he]
    have : ((u, c) ∈ (keysL (dirtyL ls)).take i ++ [(x.u, x.b)]) ↔ ((u, c) ∈ (keysL (dirtyL ls)).take i) := by
      rw [List.mem_append]
      refine ⟨fun h => h.elim id fun h => ?_, .inl⟩
      simp at h
      exact absurd h he
    by_cases h2 : (u, c) ∈ (keysL (dirtyL ls)).take i
    · rw [if_pos h2, if_pos (this.2 h2)]
    · rw [if_neg h2, if_neg (fun e => h2 (this.1 e))]
theorem hasF_dirty {ls : List LineOf} {i : Nat} (hi : i < (dirtyL ls).length) : hasF ls (lineAt (dirtyL ls) i).u (lineAt (dirtyL ls) i).b = true :=
  decide_eq_true (find_yes (dirty_mem hi).1 (LineOf.is_iff.2 ⟨rfl, rfl⟩))
theorem cleaned_is (l : LineOf) (u c : Int) : (clr l).is u c = l.is u c := rfl
theorem cleaned_got {ls : List LineOf} (ha : Apart ls) (u c : Int) : clrF ls (dirtyL ls).length u c = gotL (cleanedL ls) u c ∧ hasF ls u c = hasF (cleanedL ls) u c := by
  have e : cleanedL ls = ls.map clr := rfl
  have hf : findL (cleanedL ls) u c = findL ls u c := by
    unfold findL
    rw [e, List.findIdx_map]
    rfl
  have hl : (cleanedL ls).length = ls.length := by rw [e, List.length_map]
  refine ⟨?_, by unfold hasF; rw [hf, hl]⟩
  have hk : (keysL (dirtyL ls)).take (dirtyL ls).length = keysL (dirtyL ls) := List.take_of_length_le (by rw [keysL_len]; omega)
  unfold clrF
  rw [hk]
  by_cases h : findL ls u c < ls.length
  · have g := got_is h
    have e1 : gotL (cleanedL ls) u c = clr (gotL ls u c) := by
      unfold gotL
      rw [hf, hl, if_pos h, if_pos h, e]
      unfold lineAt
      rw [List.getD_eq_getElem?_getD, List.getD_eq_getElem?_getD, List.getElem?_map, List.getElem?_eq_getElem h]; rfl
    rw [e1]
    split
    · rfl
    · rename_i hn
      have hd : (gotL ls u c).d = false := by
        cases hd : (gotL ls u c).d with
        | false => rfl
        | true =>
          exfalso
          refine hn (List.mem_map.2 ⟨gotL ls u c, List.mem_filter.2 ⟨g.1, hd⟩, ?_⟩)
          have := LineOf.is_iff.1 g.2
          unfold keyL; rw [this.1, this.2]
      generalize gotL ls u c = x at *
      cases x
      simp only at hd
      subst hd; rfl
  · have e1 : gotL (cleanedL ls) u c = noLine := got_none (by rw [hf, hl]; exact h)
    rw [e1, got_none h]
    split <;> rfl
theorem cleaned_keys (ls : List LineOf) : keysL (cleanedL ls) = keysL ls := by unfold keysL cleanedL; rw [List.map_map]; rfl
/-- Between two rounds of Clean. -/
structure ClI (w4 : World) (M MB n : Nat) (f : Int → Int → LineOf) (g : Int → Int → Bool) (i : Nat) (V : World) : Prop where
  map : MapG V M n f g
  many : V.heap[MB]? = some (.cells #[.int .i64 i] 3 (0, 0))
  keep : Keeps (fun k => k = M ∨ k = MB) w4 V
theorem ClI.save {w4 V V' : World} {M MB n D i : Nat} {f : Int → Int → LineOf} {g : Int → Int → Bool} (h : ClI w4 M MB n f g i V) (hs : Save D V V') (hD : w4.heap.size ≤ D) (hM : M < w4.heap.size) (hB : MB < w4.heap.size) : ClI w4 M MB n f g i V' := by
  have hz := h.keep.size
  have key : ∀ k, k < w4.heap.size → V'.heap[k]? = V.heap[k]? := fun k hk => hs.same k (by omega) (by omega) (by omega)
  exact ⟨h.map.keep (key M hM), (key MB hB).trans h.many, h.keep.trans' ⟨hs.os, hs.tape, hs.output, hs.size, fun k hk _ => key k hk⟩⟩
theorem ClI.iter {w4 V : World} {M MB n i : Nat} {f : Int → Int → LineOf} {g : Int → Int → Bool} (h : ClI w4 M MB n f g i V) {T : Nat → Prop} (hT : ∀ k, T k → k < w4.heap.size) (hn : ∀ k, T k → k ≠ M ∧ k ≠ MB) : ∀ k, T k → V.heap[k]? = w4.heap[k]? := fun k hk => h.keep.block k (hT k hk) (fun e => by have := hn k hk; omega)
theorem ClI.keepW {w4 V V' : World} {M MB n i : Nat} {f : Int → Int → LineOf} {g : Int → Int → Bool} {S : Nat → Prop} (h : ClI w4 M MB n f g i V) (hk : Keeps S V V') (hS : ∀ k, S k → w4.heap.size ≤ k) (hM : M < w4.heap.size) (hB : MB < w4.heap.size) : ClI w4 M MB n f g i V' := by
  have hz := h.keep.size
  have key : ∀ k, k < w4.heap.size → V'.heap[k]? = V.heap[k]? := fun k hk2 => hk.block k (by omega) (fun e => by have := hS k e; omega)
  exact ⟨h.map.keep (key M hM), (key MB hB).trans h.many, h.keep.trans' ⟨hk.os, hk.tape, hk.output, hk.size, fun k hk2 _ => key k hk2⟩⟩
theorem ClI.push {w4 V V5 : World} {M MB n i : Nat} {f f' : Int → Int → LineOf} {g g' : Int → Int → Bool} (h : ClI w4 M MB n f g i V) (hm : MapG V5 M n f' g') (hk : Keeps (fun k => k = M) V V5) (hne : M ≠ MB) : V5.cell? ⟨MB, 0, none⟩ = some (.int .i64 i) ∧ V5.frozen? ⟨MB, 0, none⟩ = false ∧ ClI w4 M MB n f' g' (i + 1) (V5.setCell ⟨MB, 0, none⟩ (.int .i64 ((i + 1 : Nat) : Int))) ∧ Keeps (fun k => k = M ∨ k = MB) V (V5.setCell ⟨MB, 0, none⟩ (.int .i64 ((i + 1 : Nat) : Int))) := by
  have h5 : V5.heap[MB]? = some (.cells #[.int .i64 i] 3 (0, 0)) := (hk.block MB (Array.getElem?_eq_some_iff.1 h.many).1 (fun e => hne e.symm)).trans h.many
  have hK : Keeps (fun k => k = M ∨ k = MB) V (V5.setCell ⟨MB, 0, none⟩ (.int .i64 ((i + 1 : Nat) : Int))) := Keeps.setCell (S := fun k => k = M ∨ k = MB) (hk.mono fun k _ e => .inl e) (.inr rfl) 0 _
  exact ⟨cell_of_row _ _ _ _ _ _ h5, frozen_of_row _ _ _ _ _ h5, ⟨hm.keep (Below.heap_setCell _ _ _ M (fun e => hne e)), heap_setCell_same _ _ _ _ _ _ h5, h.keep.trans hK⟩, hK⟩
theorem place_run (u c : Int) (w : World) : (Instr.build plT #[(0, .int .i64 u), (1, .int .i64 c)]).run Try.prog w = .ok (.agg #[.int .i64 u, .int .i64 c]) w := run_build w plT _ _ (by kernel_rfl)
theorem gives_place {o : Oper} {a : Act} {C : World → Prop} {K : Act → Prop} (x y : Operand) (ho : o.op = .build plT #[(0, x), (1, y)]) (u c : Int) (hx : a.eval x = .int .i64 u) (hy : a.eval y = .int .i64 c) (hk : K (a.put o.dst (.agg #[.int .i64 u, .int .i64 c]))) : ∃ v, Gives Try.prog C o a v ∧ K (a.put o.dst v) :=
  gives_build_any _ _ #[(0, .int .i64 u), (1, .int .i64 c)] _ ho (by simp [hx, hy]) (place_run u c) hk
theorem box_ptr (w : World) : (isAgg 24).run Try.prog w = .ok false w := by simp [go_sem]
attribute [local irreducible] findL outL lineC lineAt cleanL placeC gotL keysL getL lineV clrF hasF dirtyL cleanedL
attribute [local go_sem] Oper.semAt_some
set_option maxRecDepth 100000 in
set_option maxHeartbeats 4000000 in
theorem Clean_any {w : World} {B M : Nat} {q : Int} {v : Value} {ls : List LineOf} (h : CS w B M q v ls (keysL ls)) (g : GoodL q ls) :
    Calls Try.prog 18 #[.pointer (some ⟨B, 0, none⟩)] w fun e w' => e = .returned (.int .i64 (dirtyL ls).length) ∧ CT w w' B M q v (cleanedL ls) (keysL (cleanedL ls)) := by
  have HA := Lib.hid g.ap
  have HC := Lib.hid h
  have HL8 := Lib.hid (show (dirtyL ls).length ≤ 8 from by have := dirtyL_len ls; have := g.few; have := g.high; omega)
  have HN8 := Lib.hid (show ls.length ≤ 8 from by have := g.few; have := g.high; omega)
  have HBW := Lib.hid (h.lt)
  have HMW := Lib.hid (h.map.lt)
  have HCS := Lib.hid (fun (W : World) (hW : Below w.heap.size w W) => h.below hW)
  have HDY := Lib.hid (fun (W : World) (hW : Below w.heap.size w W) => Dirty_ok (h.below hW) g)
  have HOW := Lib.hid (fun k (hk : csS B M v k) => h.own_lt hk)
  have HOK := Lib.hid (fun i (hi : i < (dirtyL ls).length) => g.ok _ (dirty_mem hi).1)
  have HFS := Lib.hid (fun i (hi : i < (dirtyL ls).length) u c => clrF_step HA.out hi u c)
  have HHS := Lib.hid (fun i (hi : i < (dirtyL ls).length) => hasF_dirty hi)
  have HCG := Lib.hid (fun u c => cleaned_got HA.out u c)
  have HZ := Lib.hid (fun u c => clrF_zero ls u c)
  have HCK := Lib.hid (cleaned_keys ls)
  have HCL := Lib.hid (show (cleanedL ls).length = ls.length by unfold cleanedL; exact List.length_map _)
  have U2 := Lib.hid (below_two w (.cells #[.pointer (some ⟨B, 0, none⟩)] 24) (.cells #[.int .i64 0] 3))
  have ZU := Lib.hid (show ((w.alloc (.cells #[.pointer (some ⟨B, 0, none⟩)] 24)).alloc (.cells #[.int .i64 0] 3)).heap.size = w.heap.size + 2 from by simp)
  have PU := Lib.hid (show ((w.alloc (.cells #[.pointer (some ⟨B, 0, none⟩)] 24)).alloc (.cells #[.int .i64 0] 3)).heap[w.heap.size]? = some (.cells #[.pointer (some ⟨B, 0, none⟩)] 24 (0, 0)) from by
    rw [Below.heap_alloc _ _ _ (by simp only [World.size_alloc]; omega)]; exact heap_alloc_new _ _)
  have MU := Lib.hid (show ((w.alloc (.cells #[.pointer (some ⟨B, 0, none⟩)] 24)).alloc (.cells #[.int .i64 0] 3)).heap[w.heap.size + 1]? = some (.cells #[.int .i64 0] 3 (0, 0)) from by
    have h1 := heap_alloc_new (w.alloc (.cells #[.pointer (some ⟨B, 0, none⟩)] 24)) (.cells #[.int .i64 0] 3)
    rw [World.size_alloc] at h1
    exact h1)
  clear h g
  refine (callsIn_wide (n := 3)).1 ?_
  refine callsIn_of_wp_marks Try.func18 rfl trivial ?_ rfl
  simp only [Try.ntmps18, List.size_toArray, List.length_cons, List.length_nil, Nat.reduceAdd, Nat.reduceSub, Array.replicate_succ, Array.replicate_zero, List.push_toArray, List.append_toArray, List.nil_append, List.cons_append]
  refine wpIn_wide.2 ?_
  go_wp2_with (first
    | (go_at_call 30
       generalize (w.alloc (.cells #[.pointer (some ⟨B, 0, none⟩)] 24)).alloc (.cells #[.int .i64 0] 3) = U at *
       refine (HDY.out U U2.out).mono ?_; rintro e w4 ⟨fv, T, rfl, ⟨gf, lb, rfl, eg, hTl, hit⟩, hT, hb⟩
       have G4 := Lib.hid (show w.heap.size + 2 ≤ w4.heap.size from by have := ZU.out; have := hb.size; omega)
       have L4 := Lib.hid (U2.out.trans (hb.mono U2.out.size))
       have P4 := Lib.hid ((hb.block _ (by have := ZU.out; omega)).trans PU.out)
       have M4 := Lib.hid ((hb.block _ (by have := ZU.out; omega)).trans MU.out)
       have Q4 := Lib.hid (show ∀ k, T k → k < w4.heap.size ∧ k ≠ M ∧ k ≠ w.heap.size + 1 from fun k hk => ⟨hTl k hk, by have := hT k hk; have := ZU.out; have := HMW.out; omega⟩)
       have HIT := Lib.hid hit
       have HEG := Lib.hid eg
       clear hb hit hT hTl eg PU MU U2 ZU HDY))
  have C4 := Lib.hid (HCS.out w4 L4.out)
  have HI0 := Lib.hid (show ClI w4 M (w.heap.size + 1) ls.length (clrF ls 0) (hasF ls) 0 w4 from ⟨C4.out.map.congr rfl (fun u c => (HZ.out u c).symm) (fun u c => by unfold hasF; rfl), M4.out, Keeps.refl _ _⟩)
  refine (wpIn_wide (n := 3)).1 ?_
  refine range_free rfl (by omega) (gf := gf) (lb := lb) rfl trivial HEG.out
    (fun l : LineOf => #[lineV l]) (fun i => lineAt (dirtyL ls) i) (dirtyL ls).length (fun V => ∀ k, T k → V.heap[k]? = w4.heap[k]?) (fun _ => rfl)
    (fun i V => ClI w4 M (w.heap.size + 1) ls.length (clrF ls i) (hasF ls) i V) (fun _ _ => False) ?rd ?st ?stx HI0.out HIT.out ?round ?done ?stop
  case rd => exact fun i V h => h.iter (fun k hk => (Q4.out k hk).1) (fun k hk => (Q4.out k hk).2)
  case st => exact fun i V V' h hs => h.save hs (Nat.le_refl _) (by have := HMW.out; have := G4.out; omega) (by have := G4.out; omega)
  case stx => exact fun c V V' h hs => h.elim
  case stop => exact fun D c W hD h => h.elim
  case done =>
    intro D W hD hI hd
    have cm : W.cell? ⟨w.heap.size + 1, 0, none⟩ = some (.int .i64 (dirtyL ls).length) := cell_of_row _ _ _ _ _ _ hI.many
    have HD := Lib.hid hd
    have HI := Lib.hid hI
    have CW := Lib.hid (show CS W B M q v (cleanedL ls) (keysL (cleanedL ls)) from by
      have hk := hI.keep
      have same : ∀ k, csS B M v k → k ≠ M → W.heap[k]? = w4.heap[k]? := fun k hk2 hne => hk.block k (Nat.lt_of_lt_of_le (HOW.out k hk2) L4.out.size) (fun e => by have := HOW.out k hk2; omega)
      have hc := C4.out
      rw [HCK.out]
      refine ⟨(same B (.inl rfl) hc.bm).trans hc.box, hI.map.congr HCL.out.symm (fun u c => (HCG.out u c).1) (fun u c => by have := (HCG.out u c).2; unfold hasF at this ⊢; exact this), ?_, hc.neB, hc.neM, hc.bm, hc.few⟩
      rcases hc.own with h1 | ⟨L, c, cur, h1, h2, h3, h4, h5⟩
      · exact .inl h1
      · exact .inr ⟨L, c, cur, h1, h2, Nat.lt_of_lt_of_le h3 hk.size, (same L (.inr (.inr (by rw [h1]; rfl))) (fun e => hc.neM (by rw [h1, e]; rfl))).trans h4, h5⟩)
    clear hI hd HI0 M4 P4
    go_wp2
    refine ⟨by simp, .inl ⟨_, _, rfl, run_takeDeferred HD.out, ?_⟩⟩
    have G := G4.out
    have KW : Keeps (csS B M v) w W := ⟨HI.out.keep.os.trans L4.out.os, HI.out.keep.tape.trans L4.out.tape, HI.out.keep.output.trans L4.out.output, Nat.le_trans L4.out.size HI.out.keep.size, fun k hk hn => (HI.out.keep.block k (Nat.lt_of_lt_of_le hk L4.out.size) (fun e => by
      rcases e with e | e
      · exact hn (.inr (.inl e))
      · omega)).trans (L4.out.block k hk)⟩
    refine ⟨.int .i64 (dirtyL ls).length, ?_, rfl, v, CW.out.keep (by simp) fun k hk => World.putObj_heap_other (by have := HOW.out k hk; omega), KW.trans' ⟨rfl, rfl, rfl, by simp, fun k hk _ => World.putObj_heap_other (by omega)⟩, fun k hk => .inl hk⟩
    simp [results, Try.f18, go_sem]
  case round =>
    intro l i W hl hi hWs hI
    have HI := Lib.hid hI
    have HW := Lib.hid hWs
    clear hI hWs HI0
    have HOX := Lib.hid (HOK.out i hi)
    have HFX := Lib.hid (HFS.out i hi)
    have HHX := Lib.hid (HHS.out i hi)
    have HIL := Lib.hid (show i < 8 from by have := HL8.out; omega)
    obtain ⟨x, hxe⟩ : ∃ x, lineAt (dirtyL ls) i = x := ⟨_, rfl⟩
    rw [hxe] at HOX HFX HHX ⊢
    clear hxe
    have BL := Lib.hid (box_laid W x)
    gi_wp2_with (first
      | (refine lineIn_alloc rfl rfl rfl rfl W.heap.size rfl ?_; go_simp)
      | (refine lineIn_store rfl rfl rfl _ _ rfl rfl W.heap.size rfl x noLine rfl (LineBox.alloc W noLine) ?_))
    have BX := Lib.hid BL.out.1
    have BB := Lib.hid BL.out.2.1
    have BZ := Lib.hid BL.out.2.2
    clear BL
    generalize (W.alloc (.cells (lineC noLine).toArray 42)).setRow W.heap.size (lineC x).toArray = W' at *
    refine ⟨⟨BB.out.size, BB.out.block _ (by have := HW.out; omega), BB.out.block _ (by have := HW.out; omega)⟩, fun V hVs hVk hVS => ?_⟩
    have hM4 : M < w4.heap.size := by have := HMW.out; have := G4.out; omega
    have hB4 : w.heap.size + 1 < w4.heap.size := by have := G4.out; omega
    have hI := (HI.out.save (.of_below BB.out) (Nat.le_refl _) hM4 hB4).save hVS (Nat.le_refl _) hM4 hB4
    have BXV := Lib.hid (show LineBox V W.heap.size x from (hVk W.heap.size (by have := HW.out; omega)).trans BX.out)
    have HWL := Lib.hid (show W.heap.size < V.heap.size ∧ w4.heap.size + 2 ≤ W.heap.size from by have := HW.out; have := BZ.out; omega)
    have kd := box_d BXV.out
    have kf := BXV.out.free 130
    have K2 := Lib.hid (show Keeps (fun k => k = W.heap.size) V (V.setCell ⟨W.heap.size, 130, none⟩ (.bool false)) from (Keeps.refl (fun k => k = W.heap.size) V).setCell (S := fun k => k = W.heap.size) rfl 130 (.bool false))
    have B2 := Lib.hid (show LineBox (V.setCell ⟨W.heap.size, 130, none⟩ (.bool false)) W.heap.size (clr x) from BXV.out.setD false)
    have I2 := Lib.hid (hI.keepW K2.out (fun k hk => by rw [hk]; have := HWL.out; omega) hM4 hB4)
    clear hVk hVS hVs HI BX BB BZ hI
    gi_wp2
    generalize V.setCell ⟨W.heap.size, 130, none⟩ (.bool false) = V2 at *
    have P2 := Lib.hid (show V2.cell? ⟨w.heap.size, 0, none⟩ = some (.pointer (some ⟨B, 0, none⟩)) from cell_of_row _ _ _ _ _ _ ((I2.out.keep.block w.heap.size (by omega) (fun e => by have := HMW.out; omega)).trans P4.out))
    have C2 := Lib.hid (show V2.cell? ⟨B, 1, none⟩ = some (.map (some M)) from cell_of_row _ _ _ _ _ _ ((I2.out.keep.block B (by have := HBW.out; omega) (fun e => by have := HBW.out; have := C4.out.bm; omega)).trans C4.out.box))
    obtain ⟨V5, r5, m5, k5⟩ := MapG.store (W := V2.drew) (I2.out.map.keep rfl) (by have := HN8.out; omega) HOX.out.2.1 HOX.out.2.2 (clr x)
    have K5 := Lib.hid (show Keeps (fun k => k = M) V2 V5 from ((Keeps.refl (fun k => k = M) V2).drew).trans k5)
    have R5 := Lib.hid r5
    have M5 := Lib.hid (show MapG V5 M ls.length (clrF ls (i + 1)) (hasF ls) from m5.congr (by rw [if_pos HHX.out]) (fun u c => HFX.out u c) (fun u c => by
      show (if u = x.u ∧ c = x.b then true else hasF ls u c) = hasF ls u c
      by_cases e : u = x.u ∧ c = x.b
      · rw [if_pos e, e.1, e.2, HHX.out]
      · rw [if_neg e]))
    obtain ⟨z1, z2, z3, z4⟩ := I2.out.push M5.out K5.out (by have := HMW.out; omega)
    have Z3 := Lib.hid z3
    have Z4 := Lib.hid z4
    have P5 := Lib.hid ((cell_fr (p := ⟨w.heap.size, 0, none⟩) (K5.out.block w.heap.size (by have := I2.out.keep.size; omega) (fun e => by have := HMW.out; omega))).trans P2.out)
    have C5 := Lib.hid ((cell_fr (p := ⟨B, 1, none⟩) (K5.out.block B (by have := I2.out.keep.size; have := HBW.out; omega) (fun e => by have := C4.out.bm; omega))).trans C2.out)
    have B5 := Lib.hid (B2.out.keep (K5.out.block W.heap.size B2.out.lt (by have := HWL.out; omega)))
    have f3 : IntKind.i64.wrap ((i : Int) + 1) = ((i + 1 : Nat) : Int) := by have := HIL.out; rw [IntWalk.i64_in _ (by omega)]; omega
    clear r5 m5 k5 z3 z4 kd kf
    refine roundIn_sched [(0, true), (1, true), (2, true), (3, true), (4, true), (5, true), (6, true), (7, true), (8, true), (9, true), (10, false)] (fun V => V.cell? ⟨w.heap.size, 0, none⟩ = some (.pointer (some ⟨B, 0, none⟩)) ∧ V.cell? ⟨B, 1, none⟩ = some (.map (some M)) ∧ LineBox V W.heap.size (clr x)) (by kernel_rfl) (by kernel_rfl) rfl (by rintro ⟨_, _, h⟩; exact h) ⟨P2.out, C2.out, B2.out⟩ ?_
    refine walk_float rfl rfl (fun K hK => ?_)
    refine gives_cell 24 _ rfl ⟨w.heap.size, 0, none⟩ _ rfl box_ptr (fun V hV => hV.1) ?_
    go_simp
    refine hK _ ?_
    clear hK K
    refine walk_float rfl rfl (fun K hK => ?_)
    refine gives_nil_check _ rfl ⟨B, 0, none⟩ rfl ?_
    go_simp
    refine hK _ ?_
    clear hK K
    refine walk_float rfl rfl (fun K hK => ?_)
    refine gives_cafield _ 1 rfl (by decide) B rfl ?_
    go_simp
    refine hK _ ?_
    clear hK K
    refine walk_float rfl rfl (fun K hK => ?_)
    refine gives_cell mapT _ rfl ⟨B, 1, none⟩ _ rfl box_map (fun V hV => hV.2.1) ?_
    go_simp
    refine hK _ ?_
    clear hK K
    refine walk_float rfl rfl (fun K hK => ?_)
    refine gives_line_field _ 0 0 (by decide) rfl W.heap.size rfl ?_
    go_simp
    refine hK _ ?_
    clear hK K
    refine walk_float rfl rfl (fun K hK => ?_)
    refine gives_cell 3 _ rfl ⟨W.heap.size, 0, none⟩ (.int .i64 x.u) rfl box_int (fun V hV => (hV.2.2.cell 0).trans (lineC_0 _)) ?_
    go_simp
    refine hK _ ?_
    clear hK K
    refine walk_float rfl rfl (fun K hK => ?_)
    refine gives_line_field _ 1 1 (by decide) rfl W.heap.size rfl ?_
    go_simp
    refine hK _ ?_
    clear hK K
    refine walk_float rfl rfl (fun K hK => ?_)
    refine gives_cell 3 _ rfl ⟨W.heap.size, 1, none⟩ (.int .i64 x.b) rfl box_int (fun V hV => (hV.2.2.cell 1).trans (lineC_1 _)) ?_
    go_simp
    refine hK _ ?_
    clear hK K
    refine walk_float rfl rfl (fun K hK => ?_)
    refine gives_place _ _ rfl x.u x.b rfl rfl ?_
    go_simp
    refine hK _ ?_
    clear hK K
    refine walk_float rfl rfl (fun K hK => ?_)
    refine gives_line_load _ rfl W.heap.size 0 rfl (clr x) (fun V hV => hV.2.2.range) ?_
    go_simp
    refine hK _ ?_
    clear hK K
    refine walk_done rfl rfl (fun K hK => ?_)
    refine done_update _ _ _ rfl M x.u x.b (clr x) rfl rfl rfl V5 R5.out ?_
    refine ⟨⟨P5.out, C5.out, B5.out⟩, ?_⟩
    go_simp
    refine hK _ _ ?_
    clear hK K
    refine walk_nil ?_
    gi_wp2
    exact ⟨⟨Nat.le_trans K2.out.size Z4.out.size, (Z4.out.block _ (by have := K2.out.size; have := HWL.out; omega) (by omega)).trans (K2.out.block _ (by have := HWL.out; omega) (by have := HWL.out; omega)), (Z4.out.block _ (by have := K2.out.size; have := HWL.out; omega) (by omega)).trans (K2.out.block _ (by have := HWL.out; omega) (by have := HWL.out; omega))⟩, Z3.out⟩
end Go.Proofs.Ytlaclakndleonaa

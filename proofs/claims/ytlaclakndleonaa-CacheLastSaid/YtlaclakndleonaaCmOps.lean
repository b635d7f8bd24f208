/- Boxes of lines laid and written, the world behind them a variable; what a call within a frame leaves; Dirty, Quota, New. Conditions: as each says. -/
import Derived.Test.YtlaclakndleonaaCmDirty
namespace Go.Proofs.Ytlaclakndleonaa
open Go.ChangeShapes Go.WideShapes Go.ChangeAt Go.RowKit
set_option linter.unusedVariables false
theorem keeps_setRow (O : Nat) (cs : Array Value) (w : World) : Keeps (fun k => k = O) w (w.setRow O cs) := (Keeps.refl (fun k => k = O) w).setRow rfl cs
section
variable {ops : Array Oper} {rest : List Oper} {o : Oper} {a : Act} {w : World} {Q : Exit → Act → World → Prop}
theorem wpList_box_new (hw : Region.wanted o (yielded ops a.tmps) = true) (ho : o.op = .alloc 42) (S : Nat) (hS : w.heap.size = S)
    (h : ∀ w', LineBox w' S noLine → Below w.heap.size w w' → w'.heap.size = w.heap.size + 1 → wpList Try.prog ops Q rest (a.put o.dst (.pointer (some ⟨S, 0, none⟩))) w') : wpList Try.prog ops Q (o :: rest) a w :=
  wpList_line_alloc hw ho S hS (h _ (by subst hS; exact LineBox.alloc w noLine) ((Below.refl _ w).alloc (Nat.le_refl _) _) (World.size_alloc _ _))
theorem wpList_box_put (hgd : o.guard = none) (x y : Operand) (ho : o.op = .store 42 x y) (hd : o.dst = none) (O : Nat) (l old : LineOf) (hx : a.eval x = .pointer (some ⟨O, 0, none⟩)) (hy : a.eval y = lineV l) (hO : LineBox w O old)
    (h : ∀ w', LineBox w' O l → Keeps (fun k => k = O) w w' → w'.heap.size = w.heap.size → wpList Try.prog ops Q rest a w') : wpList Try.prog ops Q (o :: rest) a w :=
  store_row_on hgd 42 x y ho hd O (lineC l).toArray hx hy 42 (lineC old).toArray hO (lineA_size _) (lineA_same _ _) (lineA_one _) (h _ (hO.set l) (keeps_setRow O _ w) (by simp))
theorem done_box_new {K : Value → World → Prop} (ho : o.op = .alloc 42) (S : Nat) (hS : w.heap.size = S) (h : ∀ w', LineBox w' S noLine → Below w.heap.size w w' → w'.heap.size = w.heap.size + 1 → K (.pointer (some ⟨S, 0, none⟩)) w') : doneAt Try.prog o a w K := by
  subst hS
  exact done_line_alloc ho (h _ (LineBox.alloc w noLine) ((Below.refl _ w).alloc (Nat.le_refl _) _) (World.size_alloc _ _))
theorem done_box_put {K : Value → World → Prop} (x y : Operand) (ho : o.op = .store 42 x y) (O : Nat) (l old : LineOf) (hx : a.eval x = .pointer (some ⟨O, 0, none⟩)) (hy : a.eval y = lineV l) (hO : LineBox w O old) (h : ∀ w', LineBox w' O l → Keeps (fun k => k = O) w w' → w'.heap.size = w.heap.size → K undef w') : doneAt Try.prog o a w K :=
  done_line_store x y ho O l old hx hy hO (h _ (hO.set l) (keeps_setRow O _ w) (by simp))
end
section
variable {w w1 w' w2 : World} {B M : Nat} {q : Int} {v : Value} {ls ls' : List LineOf} {ks ks' : List (Int × Int)}
/-- Behind a call within whose frame a new block was laid, and is written. -/
theorem CT.boxed (h : CS w B M q v ls ks) (hb : Below w.heap.size w w1) (hT : CT w1 w2 B M q v ls' ks') {S : Nat} (h1 : w.heap.size ≤ S) (h2 : S < w1.heap.size) (hk : Keeps (fun k => k = S) w2 w') : CT w w' B M q v ls' ks' := by
  obtain ⟨v1, c1, c2, c3⟩ := CT.from h hb hT
  obtain ⟨v2, k1, k2, k3⟩ := hT
  obtain rfl : v1 = v2 := Option.some.inj (c1.c2.symm.trans k1.c2)
  have hn : ∀ k, csS B M v1 k → k ≠ S := fun k hkk e => by
    subst e
    rcases k3 k hkk with e | e
    · have := h.own_lt e; omega
    · omega
  exact ⟨v1, c1.keep hk.size fun k hkk => hk.block k (c1.own_lt hkk) (hn k hkk), c2.trans' ⟨hk.os, hk.tape, hk.output, hk.size, fun k hlt _ => hk.block k (Nat.lt_of_lt_of_le hlt c2.size) (by omega)⟩, c3⟩
/-- Other lines with the same look-ups. -/
theorem CS.relist (h : CS w B M q v ls ks) (hl : ls'.length = ls.length) (hg : ∀ u c, gotL ls u c = gotL ls' u c) (hf : ∀ u c, decide (findL ls u c < ls.length) = decide (findL ls' u c < ls'.length)) : CS w B M q v ls' ks :=
  ⟨h.box, h.map.congr hl.symm hg hf, h.own, h.neB, h.neM, h.bm, h.few⟩
theorem CT.relist (h : CT w w' B M q v ls ks) (hl : ls'.length = ls.length) (hg : ∀ u c, gotL ls u c = gotL ls' u c) (hf : ∀ u c, decide (findL ls u c < ls.length) = decide (findL ls' u c < ls'.length)) : CT w w' B M q v ls' ks := by
  obtain ⟨v1, h1, h2, h3⟩ := h
  exact ⟨v1, h1.relist hl hg hf, h2, h3⟩
/-- A line that is moved to the end. -/
theorem CT.moved (h : CT w w' B M q v ls ks) (ha : Apart ls) {u c : Int} (hf : findL ls u c < ls.length) : CT w w' B M q v (getL ls u c) ks := by
  have hx := got_is hf
  rw [LineOf.is_iff] at hx
  have e : getL ls u c = outL ls (findL ls (gotL ls u c).u (gotL ls u c).b) ++ [gotL ls u c] := by
    rw [hx.2.1, hx.2.2]
    unfold getL gotL
    rw [if_pos hf, if_pos hf]
  have hf2 : findL ls (gotL ls u c).u (gotL ls u c).b < ls.length := by rw [hx.2.1, hx.2.2]; exact hf
  have hh := got_again ha hf2
  rw [e]
  refine h.relist (hh 0 0).2.2.1 (fun u' c' => ?_) (fun u' c' => ?_)
  · rw [(hh u' c').1]
    split
    · rename_i e2; rw [e2.1, e2.2, hx.2.1, hx.2.2]
    · rfl
  · rw [(hh u' c').2.1]
    split
    · rename_i e2; rw [e2.1, e2.2]; exact decide_eq_true hf2
    · rfl
end
theorem keys_get {ls : List LineOf} (ha : Apart ls) {u c : Int} (hf : findL ls u c < ls.length) : without (keysL ls) u c ++ [(u, c)] = keysL (getL ls u c) := by
  have hx := got_is hf
  rw [LineOf.is_iff] at hx
  rw [keys_out ha u c hf]
  unfold getL
  rw [if_pos hf, keysL_app]
  have e : keysL [lineAt ls (findL ls u c)] = [(u, c)] := by
    have := hx.2
    rw [got_in hf] at this
    show [(_, _)] = _
    rw [this.1, this.2]
  rw [e]
/-! ### Quota, New, Dirty -/
theorem Quota_any {w : World} {B M : Nat} {q : Int} {v : Value} {ls : List LineOf} {ks : List (Int × Int)} (h : CS w B M q v ls ks) : Calls Try.prog 11 #[.pointer (some ⟨B, 0, none⟩)] w fun e w' => e = .returned (.int .i64 q) ∧ w = w' := by
  have c0 := h.c0
  clear h
  go_enter Try.func11, Try.ntmps11
  go_wp2
  go_ret
  exact ⟨rfl, rfl⟩
theorem Quota_nil (w : World) : Calls Try.prog 11 #[.pointer none] w fun e w' => e = .returned (.int .i64 0) ∧ w = w' := by
  go_enter Try.func11, Try.ntmps11
  go_wp2
  go_ret
  exact ⟨rfl, rfl⟩
attribute [local go_sem] run_makeMap
theorem newErr (q : Int) (h : ¬ (1 ≤ q ∧ q ≤ 8)) (w : World) : Calls Try.prog 9 #[.int .i64 q] w fun e w' => e = .returned (.tuple #[.pointer none, errN 1]) ∧ w = w' := by
  by_cases h1 : q < 1
  · have g1 := decide_eq_true h1
    clear h
    go_enter Try.func9, Try.ntmps9
    go_wp2
    go_ret2
    exact ⟨rfl, rfl⟩
  · have g1 := decide_eq_false h1
    have h2 : 8 < q := by omega
    have g2 := decide_eq_true h2
    clear h
    go_enter Try.func9, Try.ntmps9
    go_wp2
    go_ret2
    exact ⟨rfl, rfl⟩
theorem New_any (q : Int) (hq : 1 ≤ q ∧ q ≤ 8) (w : World) : Calls Try.prog 9 #[.int .i64 q] w fun e w' => e = .returned (.tuple #[.pointer (some ⟨w.heap.size + 1, 0, none⟩), .nilIface]) ∧ CS w' (w.heap.size + 1) w.heap.size q (.slice none 0 0) [] [] ∧ Below w.heap.size w w' := by
  have g1 : decide (q < 1) = false := decide_eq_false (by omega)
  have g2 : decide (8 < q) = false := decide_eq_false (by omega)
  have HX := Lib.hid (show CS ((w.alloc (.map #[] 0)).alloc (.cells #[.int .i64 q, .map (some w.heap.size), .slice none 0 0] 64)) (w.heap.size + 1) w.heap.size q (.slice none 0 0) [] [] from by
    refine ⟨?_, (MapL.made w).keep (Below.heap_alloc _ _ _ (by rw [World.size_alloc]; omega)), .inl ⟨rfl, rfl⟩, by simp [Value.ownBlock], by simp [Value.ownBlock], by omega, by simp⟩
    have := heap_alloc_new (w.alloc (.map #[] 0)) (.cells #[.int .i64 q, .map (some w.heap.size), .slice none 0 0] 64)
    rw [World.size_alloc] at this
    exact this)
  have HB := Lib.hid (below_two w (.map #[] 0) (.cells #[.int .i64 q, .map (some w.heap.size), .slice none 0 0] 64))
  clear hq
  go_enter Try.func9, Try.ntmps9
  go_wp2
  go_ret2
  exact ⟨rfl, HX.out, HB.out⟩
theorem lines_iter {w1 : World} {base : Nat} {v : Value} {ls : List LineOf} (ho : OwnL 42 131 lineC w1 base w1.heap.size v ls) (hn : ls.length ≤ 100) : LinesIter (w1.alloc (.cells #[v] 34)) (fun k => k = w1.heap.size ∨ v.ownBlock = some k) (dirtyL ls) (.func (.func 33) #[] #[.pointer (some ⟨w1.heap.size, 0, none⟩)]) := by
  have h0 := ho
  obtain ⟨p, c, hv, -, -, hr, hb⟩ := ho.rows elemLine.len
  refine ⟨_, _, rfl, enters_of Try.func33 (by kernel_rfl) rfl, fun k hk => ?_, ?_⟩
  · rw [World.size_alloc]
    rcases hk with rfl | hk
    · omega
    · have := h0.blockTop k hk; omega
  · have := dirty_gives w1.heap.size (w1.alloc (.cells #[v] 34)) p c ls (by rw [← hv]; exact heap_alloc_new _ _) (hr.below ((Below.refl _ w1).alloc (Nat.le_refl _) _)) hn
    intro l J Jx W hR
    refine this l J Jx W fun i V hj k hk => hR i V hj k ?_
    rcases hk with e | ⟨o, e⟩
    · exact .inl e
    · obtain ⟨-, -, rfl⟩ := hb k o e
      exact .inr (by rw [hv, e]; rfl)
end Go.Proofs.Ytlaclakndleonaa

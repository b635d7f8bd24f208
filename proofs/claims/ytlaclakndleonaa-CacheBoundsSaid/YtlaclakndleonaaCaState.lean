/- A cache between two calls of a law, and what each call of the law's makes of it; the law's line and its fixed fact. Condition: package cache does as CacheSpec says. -/
import Derived.Test.YtlaclakndleonaaCaDirty
import Derived.Test.YtlaclakndleonaaRdErr
namespace Go.Proofs.Ytlaclakndleonaa
open Go.ChangeShapes Go.WideShapes Go.ChangeAt Go.RowKit
set_option linter.unusedVariables false
abbrev AtT := World → (Nat → Prop) → Nat → Int → List LineOf → Nat → Prop
/-- The cache's own blocks lie behind the law's beginning, and all ahead of it stands. -/
def CaS (At : AtT) (w wi : World) (B : Nat) (q : Int) (ls : List LineOf) (t : Nat) : Prop := ∃ S, At wi S B q ls t ∧ (∀ k, S k → w.heap.size ≤ k) ∧ Below w.heap.size w wi
section
variable {At : AtT} {w wi wj : World} {B : Nat} {q : Int} {ls ls' : List LineOf} {t t' : Nat} {S : Nat → Prop}
theorem CaS.good (K : CacheSpec At) (h : CaS At w wi B q ls t) : GoodL q ls := by obtain ⟨S, h1, _⟩ := h; exact K.good h1
theorem CaS.low (h : CaS At w wi B q ls t) : Below w.heap.size w wi := by obtain ⟨S, _, _, h3⟩ := h; exact h3
theorem CaS.step (h2 : ∀ k, S k → w.heap.size ≤ k) (h3 : Below w.heap.size w wi) (k : ToAt At wi wj S B q ls' t') : CaS At w wj B q ls' t' := by
  obtain ⟨S', k1, k2, k3⟩ := k
  refine ⟨S', k1, fun i hi => ?_, h3.trans (k2.below h3.size (fun i hi hs => by have := h2 i hs; omega))⟩
  rcases k3 i hi with e | e
  · exact h2 i e
  · exact Nat.le_trans h3.size e
theorem CaS.below (K : CacheSpec At) (h : CaS At w wi B q ls t) (hb : Below wi.heap.size wi wj) : CaS At w wj B q ls t := by
  obtain ⟨S, h1, h2, h3⟩ := h
  exact ⟨S, K.keep h1 hb.size (fun k hk => hb.block k (K.lt h1 k hk)), h2, h3.trans (hb.mono h3.size)⟩
theorem CaS.keeps {X : Nat → Prop} (K : CacheSpec At) (h : CaS At w wi B q ls t) (hb : Keeps X wi wj) (hX : ∀ k, X k → w.heap.size ≤ k) (hS : ∀ S, At wi S B q ls t → ∀ k, S k → ¬ X k) : CaS At w wj B q ls t := by
  obtain ⟨S, h1, h2, h3⟩ := h
  exact ⟨S, K.keep h1 hb.size (fun k hk => hb.block k (K.lt h1 k hk) (hS S h1 k hk)), h2, h3.trans (hb.below h3.size (fun k hk hx => by have := hX k hx; omega))⟩
theorem CaS.get (K : CacheSpec At) (h : CaS At w wi B q ls t) (u b : Int) (hu : okI u) (hb : okI b) (ht : t ≤ 100000) : Calls Try.prog 12 #[.pointer (some ⟨B, 0, none⟩), .int .i64 u, .int .i64 b] wi fun e w' => e = .returned (.tuple #[lineV (gotL ls u b), .bool (decide (findL ls u b < ls.length))]) ∧ CaS At w w' B q (getL ls u b) (t + 1) := by
  obtain ⟨S, h1, h2, h3⟩ := h
  exact (K.get u b hu hb h1 ht).mono fun e w' ⟨a, k⟩ => ⟨a, CaS.step h2 h3 k⟩
theorem CaS.put (K : CacheSpec At) (h : CaS At w wi B q ls t) (l : LineOf) (hl : l.ok) (ht : t ≤ 100000) : Calls Try.prog 15 #[.pointer (some ⟨B, 0, none⟩), lineV l] wi fun e w' => e = .returned (errN (putN q ls l)) ∧ CaS At w w' B q (putS q ls l) (t + 1) := by
  obtain ⟨S, h1, h2, h3⟩ := h
  exact (K.put l hl h1 ht).mono fun e w' ⟨a, k⟩ => ⟨a, CaS.step h2 h3 k⟩
theorem CaS.clean (K : CacheSpec At) (h : CaS At w wi B q ls t) (ht : t ≤ 100000) : Calls Try.prog 18 #[.pointer (some ⟨B, 0, none⟩)] wi fun e w' => e = .returned (.int .i64 (dirtyL ls).length) ∧ CaS At w w' B q (cleanedL ls) (t + 1) := by
  obtain ⟨S, h1, h2, h3⟩ := h
  exact (K.clean h1 ht).mono fun e w' ⟨a, k⟩ => ⟨a, CaS.step h2 h3 k⟩
theorem CaS.drop (K : CacheSpec At) (h : CaS At w wi B q ls t) (u : Int) (hu : okI u) (ht : t ≤ 100000) : Calls Try.prog 20 #[.pointer (some ⟨B, 0, none⟩), .int .i64 u] wi fun e w' => e = .returned (.int .i64 ((ls.length - (dropL ls u).length : Nat) : Int)) ∧ CaS At w w' B q (dropL ls u) (t + 1) := by
  obtain ⟨S, h1, h2, h3⟩ := h
  exact (K.drop u hu h1 ht).mono fun e w' ⟨a, k⟩ => ⟨a, CaS.step h2 h3 k⟩
theorem CaS.lines (K : CacheSpec At) (h : CaS At w wi B q ls t) : Calls Try.prog 22 #[.pointer (some ⟨B, 0, none⟩)] wi fun e w' => ∃ v, e = .returned v ∧ OwnL 42 131 lineC w' wi.heap.size w'.heap.size v ls ∧ CaS At w w' B q ls t ∧ Below wi.heap.size wi w' := by
  have h0 := h
  obtain ⟨S, h1, h2, h3⟩ := h
  exact (K.lines h1).mono fun e w' ⟨v, a, k, hb⟩ => ⟨v, a, k, h0.below K hb, hb⟩
theorem CaS.quota (K : CacheSpec At) (h : CaS At w wi B q ls t) : Calls Try.prog 11 #[.pointer (some ⟨B, 0, none⟩)] wi fun e w' => e = .returned (.int .i64 q) ∧ CaS At w w' B q ls t ∧ Below wi.heap.size wi w' := by
  have h0 := h
  obtain ⟨S, h1, h2, h3⟩ := h
  exact (K.quota h1).mono fun e w' ⟨a, hb⟩ => ⟨a, h0.below K hb, hb⟩
theorem CaS.dirty (K : CacheSpec At) (h : CaS At w wi B q ls t) (m : Int) : Calls Try.prog 25 #[.pointer (some ⟨B, 0, none⟩), .int .i64 m] wi fun e w' => ∃ v, e = .returned v ∧ OwnL 42 131 lineC w' wi.heap.size w'.heap.size v (takeD (dirtyL ls) m) ∧ CaS At w w' B q ls t ∧ Below wi.heap.size wi w' := by
  have h0 := h
  have hg := h.good K
  obtain ⟨S, h1, h2, h3⟩ := h
  refine (dirty_any (.pointer (some ⟨B, 0, none⟩)) m (dirtyL ls) ?_ wi fun W hW => ?_).mono fun e w' ⟨v, a, k, hb⟩ => ⟨v, a, k, h0.below K hb, hb⟩
  · have h5 := dirtyL_len ls
    have h6 := hg.few
    have h7 := hg.high
    omega
  · refine (K.dirty (K.keep h1 hW.size (fun k hk => hW.block k (K.lt h1 k hk)))).mono fun e w' ⟨v, T, a, hi, hT, hb⟩ => ⟨v, T, a, hi, fun k hk => ?_, hb⟩
    rcases hT k hk with e | e
    · exact .inl (K.lt h1 k e)
    · exact .inr e
theorem CaS.new (K : CacheSpec At) (q : Int) (h1 : 1 ≤ q) (h2 : q ≤ 8) (h3 : Below w.heap.size w wi) : Calls Try.prog 9 #[.int .i64 q] wi fun e w' => ∃ B, e = .returned (.tuple #[.pointer (some ⟨B, 0, none⟩), .nilIface]) ∧ CaS At w w' B q [] 0 :=
  (K.new_ok q wi h1 h2).mono fun e w' ⟨B, S, a, k, hb, hs⟩ => ⟨B, a, S, k, fun i hi => Nat.le_trans h3.size (hs i hi), h3.trans (hb.mono h3.size)⟩
end
/-- The lines of the fixed fact. -/
def zl (b : Int) (d : Bool) : LineOf := ⟨0, b, mk 128 zeroK, d⟩
theorem zl_ok (b : Int) (hb : okI b) (d : Bool) : (zl b d).ok := ⟨isSec_mk fun _ _ => by unfold zeroK; omega, show okI 0 from by unfold okI; decide, hb⟩
section
variable {ops : Array Oper} {rest : List Oper} {o : Oper} {a : Act} {w : World} {Q : Exit → Act → World → Prop}
theorem run_zl1 (b : Int) (d : Bool) (w : World) : (Instr.build 42 #[(1, .int .i64 b), (3, .bool d)]).run Try.prog w = .ok (lineV (zl b d)) w := run_build w 42 _ _ (by kernel_rfl)
theorem run_zl0 (b : Int) (w : World) : (Instr.build 42 #[(1, .int .i64 b)]).run Try.prog w = .ok (lineV (zl b false)) w := run_build w 42 _ _ (by kernel_rfl)
theorem wpList_zl1 (hgd : o.guard = none) (b : Int) (d : Bool) (ho : o.op = .build 42 #[(1, .const (.int .i64 b)), (3, .const (.bool d))]) (h : wpList Try.prog ops Q rest (a.put o.dst (lineV (zl b d))) w) : wpList Try.prog ops Q (o :: rest) a w :=
  wpList_build_any hgd _ _ #[(1, .int .i64 b), (3, .bool d)] _ ho (by simp only [List.map_toArray, List.map_cons, List.map_nil]; rfl) (run_zl1 b d) h
theorem wpList_zl0 (hgd : o.guard = none) (b : Int) (ho : o.op = .build 42 #[(1, .const (.int .i64 b))]) (h : wpList Try.prog ops Q rest (a.put o.dst (lineV (zl b false))) w) : wpList Try.prog ops Q (o :: rest) a w :=
  wpList_build_any hgd _ _ #[(1, .int .i64 b)] _ ho (by simp only [List.map_toArray, List.map_cons, List.map_nil]; rfl) (run_zl0 b) h
theorem wpList_line_eql (hw : Region.wanted o (yielded ops a.tmps) = true) (x y : Operand) (ho : o.op = .binOp .eql 42 x y 42) (c d : LineOf) (hx : a.eval x = lineV c) (hy : a.eval y = lineV d) (v : Bool) (hv : sameLine c d = v) (h : wpList Try.prog ops Q rest (a.put o.dst (.bool v)) w) : wpList Try.prog ops Q (o :: rest) a w := by
  obtain ⟨u, hu, hk⟩ := gives_line_eql (o := o) (a := a) (C := fun W => W = w) (K := fun a' => a' = a.put o.dst (.bool v)) x y ho c d hx hy v hv rfl
  exact wanted_step hw fun K hK => by
    unfold Oper.wp
    rw [hu w rfl]
    show K (a.put o.dst u) w
    rw [hk]
    exact hK _ _ h
theorem wpList_line_neq (hw : Region.wanted o (yielded ops a.tmps) = true) (x y : Operand) (ho : o.op = .binOp .neq 42 x y 42) (c d : LineOf) (hx : a.eval x = lineV c) (hy : a.eval y = lineV d) (v : Bool) (hv : (!(sameLine c d)) = v) (h : wpList Try.prog ops Q rest (a.put o.dst (.bool v)) w) : wpList Try.prog ops Q (o :: rest) a w := by
  obtain ⟨u, hu, hk⟩ := gives_line_neq (o := o) (a := a) (C := fun W => W = w) (K := fun a' => a' = a.put o.dst (.bool v)) x y ho c d hx hy v hv rfl
  exact wanted_step hw fun K hK => by
    unfold Oper.wp
    rw [hu w rfl]
    show K (a.put o.dst u) w
    rw [hk]
    exact hK _ _ h
theorem wpList_line_load_w (hw : Region.wanted o (yielded ops a.tmps) = true) (x : Operand) (ho : o.op = .load 42 x) (B off : Nat) (hx : a.eval x = .pointer (some ⟨B, off, none⟩)) (c : LineOf) (hc : w.rangeAt B off (lineC c)) (h : wpList Try.prog ops Q rest (a.put o.dst (lineV c)) w) : wpList Try.prog ops Q (o :: rest) a w := by
  obtain ⟨u, hu, hk⟩ := gives_line_load (o := o) (a := a) (C := fun W => W = w) (K := fun a' => a' = a.put o.dst (lineV c)) x ho B off hx c (fun W e => by rw [e]; exact hc) rfl
  exact wanted_step hw fun K hK => by
    unfold Oper.wp
    rw [hu w rfl]
    show K (a.put o.dst u) w
    rw [hk]
    exact hK _ _ h
end
theorem errN_seven : errN 7 = .iface 30 (.int .i64 7) := rfl
theorem errN_one : errN 1 = .iface 30 (.int .i64 1) := rfl
attribute [local irreducible] mk zl lineC
set_option maxRecDepth 100000 in
set_option maxHeartbeats 4000000 in
theorem alive_ok {At : AtT} (K : CacheSpec At) (w : World) : Calls Try.prog 8 #[] w fun e w' => e = .returned (.bool true) ∧ Below w.heap.size w w' := by
  have B0 := Lib.hid (Below.refl w.heap.size w)
  have HK := Lib.hid K
  have P1 := Lib.hid (show putN 2 [] (zl 1 true) = 0 ∧ putS 2 [] (zl 1 true) = [zl 1 true] from by unfold zl; exact ⟨rfl, rfl⟩)
  have P2 := Lib.hid (show putN 2 [zl 1 true] (zl 2 false) = 0 ∧ putS 2 [zl 1 true] (zl 2 false) = [zl 1 true, zl 2 false] from by unfold zl; exact ⟨rfl, rfl⟩)
  have P3 := Lib.hid (show putN 2 [zl 1 true, zl 2 false] (zl 3 false) = 0 ∧ putS 2 [zl 1 true, zl 2 false] (zl 3 false) = [zl 1 true, zl 3 false] from by unfold zl; exact ⟨rfl, rfl⟩)
  have P4 := Lib.hid (show decide (findL [zl 1 true, zl 3 false] 0 2 < [zl 1 true, zl 3 false].length) = false ∧ getL [zl 1 true, zl 3 false] 0 2 = [zl 1 true, zl 3 false] ∧ gotL [zl 1 true, zl 3 false] 0 2 = noLine from by unfold zl; exact ⟨rfl, rfl, rfl⟩)
  have P5 := Lib.hid (show putN 2 [zl 1 true, zl 3 false] (zl 4 true) = 0 ∧ putS 2 [zl 1 true, zl 3 false] (zl 4 true) = [zl 1 true, zl 4 true] from by unfold zl; exact ⟨rfl, rfl⟩)
  have P6 := Lib.hid (show putN 2 [zl 1 true, zl 4 true] (zl 5 false) = 7 ∧ putS 2 [zl 1 true, zl 4 true] (zl 5 false) = [zl 1 true, zl 4 true] from by unfold zl; exact ⟨rfl, rfl⟩)
  go_enter Try.func8, Try.ntmps8
  go_wp2_with (first
    | (go_at_call 9; refine (show Calls Try.prog 9 #[.int .i64 2] w _ from CaS.new HK.out 2 (by decide) (by decide) B0.out).mono ?_; rintro e w1 ⟨B, rfl, h1⟩
       have C1 := Lib.hid h1
       clear h1)
    | (refine wpList_zl1 rfl 1 true rfl ?_)
    | (refine wpList_zl1 rfl 4 true rfl ?_)
    | (refine wpList_zl0 rfl 2 rfl ?_)
    | (refine wpList_zl0 rfl 3 rfl ?_)
    | (refine wpList_zl0 rfl 5 rfl ?_)
    | (go_at_call 15; refine (C1.out.put HK.out (zl 1 true) (zl_ok 1 (by unfold okI; decide) true) (by decide)).mono ?_; rw [P1.out.1, P1.out.2, errN_zero]; rintro e w2 ⟨rfl, h2⟩
       have C2 := Lib.hid h2
       clear h2 C1)
    | (go_at_call 15; refine (C2.out.put HK.out (zl 2 false) (zl_ok 2 (by unfold okI; decide) false) (by decide)).mono ?_; rw [P2.out.1, P2.out.2, errN_zero]; rintro e w3 ⟨rfl, h3⟩
       have C3 := Lib.hid h3
       clear h3 C2)
    | (go_at_call 15; refine (C3.out.put HK.out (zl 3 false) (zl_ok 3 (by unfold okI; decide) false) (by decide)).mono ?_; rw [P3.out.1, P3.out.2, errN_zero]; rintro e w4 ⟨rfl, h4⟩
       have C4 := Lib.hid h4
       clear h4 C3)
    | (go_at_call 12; refine (C4.out.get HK.out 0 2 (by unfold okI; decide) (by unfold okI; decide) (by decide)).mono ?_; rw [P4.out.1, P4.out.2.1, P4.out.2.2]; rintro e w5 ⟨rfl, h5⟩
       have C5 := Lib.hid (h5.below HK.out (box_laid w5 noLine).2.1)
       have BZ := Lib.hid (box_laid w5 noLine).1
       clear h5 C4)
    | (refine wpList_line_alloc rfl rfl w5.heap.size rfl ?_)
    | (refine store_row_on rfl 42 _ _ rfl rfl w5.heap.size (lineC noLine).toArray rfl rfl 42 (lineC noLine).toArray (heap_alloc_new _ _) (lineA_size _) (lineA_same _ _) (lineA_one _) ?_
       generalize (w5.alloc (.cells (lineC noLine).toArray 42)).setRow w5.heap.size (lineC noLine).toArray = w6 at *)
    | (go_at_call 15; refine (C5.out.put HK.out (zl 4 true) (zl_ok 4 (by unfold okI; decide) true) (by decide)).mono ?_; rw [P5.out.1, P5.out.2, errN_zero]; rintro e w7 ⟨rfl, h7⟩
       have C7 := Lib.hid h7
       clear h7 C5)
    | (go_at_call 15; refine (C7.out.put HK.out (zl 5 false) (zl_ok 5 (by unfold okI; decide) false) (by decide)).mono ?_; rw [P6.out.1, P6.out.2, errN_seven]; rintro e w8 ⟨rfl, h8⟩
       have C8 := Lib.hid h8
       clear h8 C7)
    | (go_at_call 10; refine (Is_err 7 rfl _).mono ?_; rintro e w9 ⟨rfl, rfl⟩)
    | (go_at_call 22; refine (C8.out.lines HK.out).mono ?_; rintro e w9 ⟨v, rfl, ho, hc, hb⟩
       obtain ⟨p9, c9, hv9, -, -, -, -⟩ := ho.rows elemLine.len
       subst hv9
       have C9 := Lib.hid hc
       clear hc ho hb))
  go_ret
  exact ⟨rfl, C9.out.low⟩
end Go.Proofs.Ytlaclakndleonaa

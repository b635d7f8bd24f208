/- The contract of the document's Clean. Condition: the cache lies in memory. -/
import Derived.Test.YtlaclakndleonaaCaRefP
namespace Go.Proofs.Ytlaclakndleonaa
open Go.ChangeShapes Go.WideShapes Go.ChangeAt Go.RowKit
set_option linter.unusedVariables false
theorem flatMap_set {α : Type} {sz : Nat} {C : α → List Value} (hC : ∀ c, (C c).length = sz) {a x : α} {u : Value} {j : Nat} (hx : C x = (C a).set j u) (hj : j < sz) : ∀ (l : List α) (i : Nat), l[i]? = some a → (l.set i x).flatMap C = (l.flatMap C).set (i * sz + j) u
  | [], i, h => by simp at h
  | b :: l, 0, h => by
    obtain rfl : b = a := by simpa using h
    rw [List.set_cons_zero, List.flatMap_cons, List.flatMap_cons, hx, Nat.zero_mul, Nat.zero_add, List.set_append_left _ _ (by rw [hC]; exact hj)]
  | b :: l, i + 1, h => by
    rw [List.set_cons_succ, List.flatMap_cons, List.flatMap_cons, flatMap_set hC hx hj l i (by simpa using h), List.set_append_right _ _ (by rw [hC, Nat.succ_mul]; omega), hC]
    congr 2
    rw [Nat.succ_mul]; omega
/-- A cell of one element of an own list is written. -/
theorem OwnL.turn {α : Type} {e : TypeId} {sz base top LB n c : Nat} {C : α → List Value} {w : World} {l : List α} (hC : ∀ c, (C c).length = sz) (h : OwnL e sz C w base top (.slice (some ⟨LB, 0, none⟩) n c) l) {i j : Nat} {a x : α} {u : Value} (ha : l[i]? = some a) (hx : C x = (C a).set j u) (hj : j < sz) :
    OwnL e sz C (w.setCell ⟨LB, sz * i + j, none⟩ u) base top (.slice (some ⟨LB, 0, none⟩) n c) (l.set i x) := by
  rcases h with ⟨h1, _⟩ | ⟨B, c', cur, h1, h2, h3, h4, h5, h6, h7, h8⟩
  · cases h1
  · have e1 : B = LB ∧ n = l.length ∧ c = c' := by
      injection h1 with e1 e2 e3
      injection e1 with e1
      injection e1 with e1
      exact ⟨e1.symm, e2, e3⟩
    obtain ⟨rfl, rfl, rfl⟩ := e1
    refine .inr ⟨B, c, cur.setIfInBounds (sz * i + j) u, by rw [List.length_set], h2, h3, heap_setCell_same _ _ _ _ _ _ h4, by rw [List.length_set]; exact h5, h6, by rw [Array.size_setIfInBounds]; exact h7, ?_⟩
    rw [List.length_set, Array.toList_setIfInBounds, List.take_set, h8, flatMap_set hC hx hj l i ha, Nat.mul_comm sz i]
/-- The first k lines are clean. -/
def cleanK (ls : List LineOf) (k : Nat) : List LineOf := (ls.take k).map (fun l => { l with d := false }) ++ ls.drop k
theorem cleanK_zero (ls : List LineOf) : cleanK ls 0 = ls := by unfold cleanK; simp
theorem cleanK_all (ls : List LineOf) : cleanK ls ls.length = cleanedL ls := by unfold cleanK cleanedL; simp
theorem cleanK_len (ls : List LineOf) (k : Nat) : (cleanK ls k).length = ls.length := by unfold cleanK; simp; omega
theorem cleanK_at {ls : List LineOf} {k : Nat} (hk : k < ls.length) : (cleanK ls k)[k]? = some (lineAt ls k) := by
  unfold cleanK
  rw [List.getElem?_append_right (by simp; omega)]
  simp only [List.length_map, List.length_take, Nat.min_eq_left (Nat.le_of_lt hk), Nat.sub_self]
  rw [List.getElem?_drop, Nat.add_zero]; exact lineAt_get hk
theorem cleanK_next {ls : List LineOf} {k : Nat} (hk : k < ls.length) : (cleanK ls k).set k { lineAt ls k with d := false } = cleanK ls (k + 1) := by
  unfold cleanK
  rw [List.set_append_right _ _ (by simp; omega)]
  simp only [List.length_map, List.length_take, Nat.min_eq_left (Nat.le_of_lt hk), Nat.sub_self]
  rw [take_snoc hk, List.map_append, List.drop_eq_getElem_cons hk, List.set_cons_zero, List.append_assoc]
  rfl
theorem cleanK_ok {ls : List LineOf} (h : ∀ l ∈ ls, l.ok) (k : Nat) : ∀ l ∈ cleanK ls k, l.ok := fun l hl => by
  unfold cleanK at hl
  rcases List.mem_append.1 hl with e | e
  · obtain ⟨l', hl', rfl⟩ := List.mem_map.1 e
    exact h l' (List.mem_of_mem_take hl')
  · exact h l (List.mem_of_mem_drop e)
theorem lineC_setD' (l : LineOf) (b : Bool) : lineC { l with d := b } = (lineC l).set 130 (.bool b) := by
  have := lineC_setD l b
  have := congrArg Array.toList this
  rw [Array.toList_setIfInBounds] at this
  exact this.symm
theorem RefC.cleaned {w : World} {B LB n c : Nat} {q : Int} {ls : List LineOf} {k : Nat} (h : RefC w B q (.slice (some ⟨LB, 0, none⟩) n c) (cleanK ls k)) (hk : k < ls.length) (ho : ∀ l ∈ ls, l.ok) :
    RefC (w.setCell ⟨LB, 131 * k + 130, none⟩ (.bool false)) B q (.slice (some ⟨LB, 0, none⟩) n c) (cleanK ls (k + 1)) := by
  have hne : LB ≠ B := fun e => h.ne (by rw [e]; rfl)
  have hsz : (w.setCell ⟨LB, 131 * k + 130, none⟩ (.bool false)).heap.size = w.heap.size := by simp [World.setCell]
  refine ⟨(Below.heap_setCell _ _ _ B (fun e => hne e.symm)).trans h.box, ?_, h.ne, cleanK_ok ho _, by rw [cleanK_len, ← cleanK_len ls k]; exact h.few⟩
  rw [hsz]
  have := h.own.turn lineC_len (cleanK_at hk) (lineC_setD' (lineAt ls k) false) (by decide)
  rw [cleanK_next hk] at this
  exact this
theorem RefC.elem {w : World} {B LB n c : Nat} {q : Int} {ls : List LineOf} (h : RefC w B q (.slice (some ⟨LB, 0, none⟩) n c) ls) {k : Nat} {l : LineOf} (hl : ls[k]? = some l) : LB < w.heap.size ∧ w.rangeAt LB (131 * k) (lineC l) := by
  obtain ⟨p, c', hv, -, -, hr, -⟩ := h.own.rows elemLine.len
  injection hv with e1 e2 e3
  subst e1
  rcases hr with rfl | ⟨B', o', hq, h2, h3⟩
  · simp at hl
  · cases hq
    have := h3 k l hl
    rw [Nat.zero_add] at this
    exact ⟨h2, this⟩
theorem frozen_cell {w : World} {LB n c : Nat} {ls : List LineOf} {base top : Nat} (h : OwnL 42 131 lineC w base top (.slice (some ⟨LB, 0, none⟩) n c) ls) (i : Nat) : w.frozen? ⟨LB, i, none⟩ = false := by
  rcases h with ⟨h1, _⟩ | ⟨B, c', cur, h1, h2, h3, h4, _⟩
  · cases h1
  · injection h1 with e1 _ _
    injection e1 with e1
    injection e1 with e1
    subst e1
    exact frozen_of_row _ _ _ _ _ h4
attribute [local irreducible] dirtyL cleanK lineC lineAt
set_option maxRecDepth 100000 in
set_option maxHeartbeats 2000000 in
theorem refClean_any {w : World} {B : Nat} {q : Int} {v : Value} {ls : List LineOf} (h : RefC w B q v ls) :
    Calls Try.prog 19 #[.pointer (some ⟨B, 0, none⟩)] w fun e w' => e = .returned (.int .i64 (dirtyL ls).length) ∧ RefTo w w' B q v (cleanedL ls) := by
  have HC := Lib.hid h
  have HD := Lib.hid (refDirty_any h)
  have HF := Lib.hid h.few
  have HOK := Lib.hid h.ok
  have HA := Lib.hid (cleanK_all ls)
  have HZ := Lib.hid (cleanK_zero ls)
  have HN1 := Lib.hid (show ∀ W, RefC W B q v ls → RefC W B q v (cleanK ls 0) from fun W hW => by rw [HZ.out]; exact hW)
  have hvs : (v = .slice none 0 0 ∧ ls = []) ∨ ∃ LB c, v = .slice (some ⟨LB, 0, none⟩) ls.length c := by
    rcases h.own with h1 | ⟨LB, c, cur, h1, _⟩
    · exact .inl h1
    · exact .inr ⟨LB, c, h1⟩
  rcases hvs with ⟨rfl, rfl⟩ | ⟨LB, c, rfl⟩
  · have f1 : ¬ (0 : Int) < 0 := by omega
    have HX := Lib.hid (show dirtyL [] = [] from by unfold dirtyL; rfl)
    have HY := Lib.hid (show cleanedL [] = [] from rfl)
    rw [HY.out, HX.out]
    clear h
    go_enter Try.func19, Try.ntmps19
    go_wp2_with (first
      | (go_at_call 23; refine (HD.out).mono ?_; rintro e w1 ⟨v1, rfl, ho1, hb1⟩
         rw [HX.out] at ho1
         obtain ⟨p1, c1', hv1, -, -, -, -⟩ := ho1.rows elemLine.len
         subst hv1
         have H1 := Lib.hid (HC.out.below hb1)
         have B1 := Lib.hid hb1
         have c1 := H1.out.c1
         clear ho1 hb1))
    go_loopw [4] (fun v4 wr => v4 = .int .i64 0 ∧ wr = w1) (fun v4 _ => 0)
    case atStart => exact ⟨rfl, rfl⟩
    case round =>
      obtain ⟨rfl, rfl⟩ := hrel
      have c1 := H1.out.c1
      go_wp2
      go_ret
      exact ⟨rfl, _, H1.out, Keeps.of B1.out, fun k hk => .inl hk⟩
  · generalize hn : ls.length = n at *
    clear h
    go_enter Try.func19, Try.ntmps19
    go_wp2_with (first
      | (go_at_call 23; refine (HD.out).mono ?_; rintro e w1 ⟨v1, rfl, ho1, hb1⟩
         obtain ⟨p1, c1', hv1, -, -, -, -⟩ := ho1.rows elemLine.len
         subst hv1
         have H1 := Lib.hid (HN1.out _ (HC.out.below hb1))
         have B1 := Lib.hid hb1
         clear ho1 hb1))
    go_loopw [4] (fun v4 wr => ∃ k : Nat, k ≤ n ∧ v4 = .int .i64 k ∧ RefC wr B q (.slice (some ⟨LB, 0, none⟩) n c) (cleanK ls k) ∧ Keeps (refS B (.slice (some ⟨LB, 0, none⟩) n c)) w1 wr) (fun v4 _ => n - (intOf v4).toNat)
    case atStart => exact ⟨0, Nat.zero_le _, rfl, H1.out, .refl _ _⟩
    case round =>
      obtain ⟨k, hk, rfl, hc, hkp⟩ := hrel
      have HK := Lib.hid hc
      have HP := Lib.hid hkp
      have c1 := hc.c1
      clear hc hkp H1
      by_cases hlt : k < n
      · have hel := HK.out.elem (cleanK_at (show k < ls.length by omega))
        have kd := line_cd hel.2
        have fd := frozen_cell HK.out.own (131 * k + 130)
        have HLT := Lib.hid hlt
        have f1 : (k : Int) < (n : Int) := by omega
        have f3 : IntKind.i64.wrap ((k : Int) + 1) = ((k + 1 : Nat) : Int) := by have := HF.out; rw [IntWalk.i64_in _ (by omega)]; omega
        have HK2 := Lib.hid (HK.out.cleaned (show k < ls.length by omega) HOK.out)
        have HP2 := Lib.hid (Keeps.setCell (S := refS B (.slice (some ⟨LB, 0, none⟩) n c)) HP.out (B := LB) (.inr rfl) (131 * k + 130) (.bool false))
        clear hel hlt hk
        go_wp2_with (first
          | (refine wpList_line_elem rfl _ _ rfl LB 0 n c k rfl rfl HLT.out ?_))
        go_roundw
        case rel => exact ⟨k + 1, HLT.out, by go_num, HK2.out, HP2.out⟩
        case measure => have := HLT.out; simp [intOf]; omega
      · have f1 : ¬ (k : Int) < (n : Int) := by omega
        obtain rfl : k = n := by omega
        rw [HA.out] at HK
        clear hlt hk
        go_wp2
        go_ret
        exact ⟨rfl, _, HK.out, (Keeps.of B1.out).trans HP.out, fun k hk => .inl hk⟩
end Go.Proofs.Ytlaclakndleonaa

/- Structs of keys, counts and rows, and lists of integers, that come in as arguments, opened. No condition. -/
import Derived.Test.YtdeojhcfbiekmaaDoorRdArgs
import Derived.Test.YtdeojhcfbiekmaaDoorRdKeys
namespace Go.Proofs.YtdeojhcfbiekmaaDoor
open Go.ChangeShapes Go.WideShapes Go.ChangeAt Go.RowKit
set_option linter.unusedVariables false
def IntsAt (w : World) (p : Option Addr) (l : List Int) : Prop := l = [] ∨ ∃ B o, p = some ⟨B, o, none⟩ ∧ B < w.heap.size ∧ ∀ j, j < l.length → w.cell? ⟨B, o + j, none⟩ = some (.int .i64 (l.getD j 0))
theorem IntsAt.below {w w' : World} {p : Option Addr} {l : List Int} (h : IntsAt w p l) (hb : Below w.heap.size w w') : IntsAt w' p l := by
  rcases h with h | ⟨B, o, e, hB, hc⟩
  · exact .inl h
  · exact .inr ⟨B, o, e, Nat.lt_of_lt_of_le hB hb.size, fun j hj => (hb.cell (p := ⟨B, o + j, none⟩) hB).trans (hc j hj)⟩
def intAt (W : World) (B o : Nat) : Int := match W.cell? ⟨B, o, none⟩ with | some (.int _ a) => a | _ => 0
theorem intAt_is {W : World} {B o : Nat} {a : Int} (h : W.cell? ⟨B, o, none⟩ = some (.int .i64 a)) : intAt W B o = a := by unfold intAt; rw [h]
def okInts (l : List Int) : Prop := (∀ j, j < l.length → -9223372036854775808 ≤ l.getD j 0 ∧ l.getD j 0 ≤ 9223372036854775807) ∧ l.length ≤ 9223372036854775807

theorem open_ints_cell {H : Type} {enc : TypeId × Value → H} {W : World} {base fuel : Nat} {spare : Nat → Bool} {held : Bool} {cs : List Value} {x : DataW H × List MemPlace} (h : DataW.trod enc Tryd.prog W base spare held fuel 46 cs = some x) :
    ∃ (q : Option Addr) (l : List Int) (cap : Nat), cs = [.slice q l.length cap] ∧ okInts l ∧ IntsAt W q l := by
  have ht : Tryd.prog.underlying 46 = some (.slice 3) := Tryd.underlying46
  have ck : Tryd.prog.cellsOf 3 = 1 := by kernel_rfl
  rcases Deep.open_slice1 ht ck h with ⟨rfl, _⟩ | ⟨a, len, cap', m, k, V, D, Pl, rfl, hb, hl, hm, hmm, _, hx⟩
  · exact ⟨none, [], 0, rfl, ⟨fun j hj => absurd hj (Nat.not_lt_zero _), Nat.zero_le _⟩, .inl rfl⟩
  · have hmx : len ≤ 9223372036854775807 := Nat.le_trans hl hm
    by_cases h0 : len = 0
    · subst h0
      exact ⟨some a, [], cap', rfl, ⟨fun j hj => absurd hj (Nat.not_lt_zero _), Nat.zero_le _⟩, .inl rfl⟩
    · have hnm : len ≤ m := by rw [hmm]; split <;> omega
      have each : ∀ i, i < len → ∃ x : Int, (-9223372036854775808 ≤ x ∧ x ≤ 9223372036854775807) ∧ W.cell? (a.add i) = some (.int .i64 x) := fun i hi => by
        obtain ⟨h1, h2⟩ := hx i (by omega)
        obtain ⟨x, hx1, _, hw⟩ := DataW.trod_int Tryd.underlying3 h2
        have hb := bounds_i64 hw
        simp only [List.cons.injEq, and_true] at hx1
        exact ⟨x, hb, by rw [← hx1]; exact h1⟩
      obtain ⟨B, o, spot⟩ := a
      obtain ⟨x0, _, hx0⟩ := each 0 (by omega)
      have hspot : spot = none := by simpa [Addr.add] using World.cell?_spot hx0
      subst hspot
      simp only [add_plain] at each hx0
      refine ⟨some ⟨B, o, none⟩, (List.range len).map fun i => intAt W B (o + i), cap', by simp, ⟨fun j hj => ?_, by simpa using hmx⟩, .inr ⟨B, o, rfl, block_lt_of_cell hx0, fun j hj => ?_⟩⟩
      · have hj2 : j < len := by simpa using hj
        obtain ⟨x, hx1, hx2⟩ := each j hj2
        have : ((List.range len).map fun i => intAt W B (o + i)).getD j 0 = x := by
          simp [List.getD_eq_getElem?_getD, hj2, intAt_is hx2]
        rw [this]; exact hx1
      · have hj2 : j < len := by simpa using hj
        obtain ⟨x, hx1, hx2⟩ := each j hj2
        have : ((List.range len).map fun i => intAt W B (o + i)).getD j 0 = x := by
          simp [List.getD_eq_getElem?_getD, hj2, intAt_is hx2]
        rw [this]; exact hx2
set_option maxRecDepth 100000 in
theorem open_ints {H : Type} {enc : TypeId × Value → H} {W : World} {r : Reach} {b0 base : Nat} {spare : Nat → Bool} {held : Bool} {v : Value} {d : DataW H} {p : List MemPlace}
    (hv : Value.okWide Tryd.prog W r b0 46 v) (h : DataW.Trod enc Tryd.prog W base spare held 46 v d p) : ∃ (q : Option Addr) (l : List Int) (cap : Nat), v = .slice q l.length cap ∧ okInts l ∧ IntsAt W q l := by
  obtain ⟨q, n, cap, rfl⟩ := okWide_slice Tryd.underlying46 hv
  obtain ⟨fuel, hf⟩ := h
  obtain ⟨q', l, cap', e, h1, h2⟩ := open_ints_cell hf
  have hd : (Value.cells (.slice q n cap)).toList = [.slice q n cap] := rfl
  rw [hd] at e
  simp only [List.cons.injEq, and_true] at e
  exact ⟨q', l, cap', e, h1, h2⟩
theorem four_cells' {cs : List Value} {a b c d : Value} (hl : cs.length = 4) (h0 : (cs.drop 0).take 1 = [a]) (h1 : (cs.drop 1).take 1 = [b]) (h2 : (cs.drop 2).take 1 = [c]) (h3 : (cs.drop 3).take 1 = [d]) : cs = [a, b, c, d] := by
  match cs, hl with
  | [x, y, z, u], _ => simp_all
/-- A key in memory. -/
structure KeyOk (W : World) (q : Option Addr) (n c : Nat) (g : Nat → Nat) : Prop where
  lt : ∀ i, i < n → g i < 256
  cap : n ≤ c
  at' : BytesAt W q n g
theorem KeyOk.below {W W' : World} {q : Option Addr} {n c : Nat} {g : Nat → Nat} (h : KeyOk W q n c g) (hb : Below W.heap.size W W') : KeyOk W' q n c g := ⟨h.lt, h.cap, h.at'.below hb⟩
set_option maxRecDepth 100000 in
theorem open_entry {H : Type} {enc : TypeId × Value → H} {W : World} {r : Reach} {b0 base : Nat} {spare : Nat → Bool} {held : Bool} {v : Value} {d : DataW H} {p : List MemPlace} (hv : Value.okWide Tryd.prog W r b0 53 v) (h : DataW.Trod enc Tryd.prog W base spare held 53 v d p) :
    ∃ (q0 : Option Addr) (n0 c0 : Nat) (g0 : Nat → Nat) (z : Int) (q1 : Option Addr) (l : List RowOf) (c1 : Nat) (m : Int), v = .agg #[.slice q0 n0 c0, .int .i64 z, .slice q1 l.length c1, .int .i64 m] ∧ KeyOk W q0 n0 c0 g0 ∧ (Lit.int .i64 z).wf = true ∧ RowsIn W q1 l ∧ (Lit.int .i64 m).wf = true := by
  obtain ⟨cs, rfl, hsz⟩ := okWide_struct Tryd.underlying53 hv
  rw [show Tryd.prog.cellsOf 53 = 4 by kernel_rfl] at hsz
  obtain ⟨fuel, hf⟩ := h
  obtain ⟨y0, y1, y2, y3, n, hx, hl, t0, t1, t2, t3⟩ := Joins.trod_struct4 Tryd.underlying53 hf
  have hdd : (Value.cells (.agg cs)).toList = cs.toList := rfl
  rw [hdd] at t0 t1 t2 t3
  have k1 : Tryd.prog.cellsOf 22 = 1 := by kernel_rfl
  have k2 : Tryd.prog.cellsOf 3 = 1 := by kernel_rfl
  have k3 : Tryd.prog.cellsOf 23 = 1 := by kernel_rfl
  simp only [k1, k2, k3] at t0 t1 t2 t3
  obtain ⟨q0, n0, c0, g0, e0, r0, b0, x0, l0⟩ := open_cell t0
  obtain ⟨z, e1, _, w1⟩ := DataW.trod_int Tryd.underlying3 t1
  obtain ⟨q1, l, c1, e2, x2⟩ := open_rows_cell t2
  obtain ⟨m, e3, _, w3⟩ := DataW.trod_int Tryd.underlying3 t3
  have hcs : cs = #[.slice q0 n0 c0, .int .i64 z, .slice q1 l.length c1, .int .i64 m] := by
    have := four_cells' (cs := cs.toList) (by simpa using hsz) e0 e1 e2 e3
    exact Array.ext' this
  exact ⟨q0, n0, c0, g0, z, q1, l, c1, m, by rw [hcs], ⟨b0, l0, x0⟩, w1, x2, w3⟩
set_option maxRecDepth 100000 in
theorem open_keyed {H : Type} {enc : TypeId × Value → H} {W : World} {r : Reach} {b0 base : Nat} {spare : Nat → Bool} {held : Bool} {v : Value} {d : DataW H} {p : List MemPlace} (hv : Value.okWide Tryd.prog W r b0 63 v) (h : DataW.Trod enc Tryd.prog W base spare held 63 v d p) :
    ∃ (q0 : Option Addr) (n0 c0 : Nat) (g0 : Nat → Nat) (q2 : Option Addr) (n2 c2 : Nat) (g2 : Nat → Nat) (z : Int) (q1 : Option Addr) (l : List RowOf) (c1 : Nat), v = .agg #[.slice q0 n0 c0, .slice q2 n2 c2, .int .i64 z, .slice q1 l.length c1] ∧ KeyOk W q0 n0 c0 g0 ∧ KeyOk W q2 n2 c2 g2 ∧ (Lit.int .i64 z).wf = true ∧ RowsIn W q1 l := by
  obtain ⟨cs, rfl, hsz⟩ := okWide_struct Tryd.underlying63 hv
  rw [show Tryd.prog.cellsOf 63 = 4 by kernel_rfl] at hsz
  obtain ⟨fuel, hf⟩ := h
  obtain ⟨y0, y1, y2, y3, n, hx, hl, t0, t1, t2, t3⟩ := Joins.trod_struct4 Tryd.underlying63 hf
  have hdd : (Value.cells (.agg cs)).toList = cs.toList := rfl
  rw [hdd] at t0 t1 t2 t3
  have k1 : Tryd.prog.cellsOf 22 = 1 := by kernel_rfl
  have k2 : Tryd.prog.cellsOf 3 = 1 := by kernel_rfl
  have k3 : Tryd.prog.cellsOf 23 = 1 := by kernel_rfl
  simp only [k1, k2, k3] at t0 t1 t2 t3
  obtain ⟨q0, n0, c0, g0, e0, r0, b0, x0, l0⟩ := open_cell t0
  obtain ⟨q2, n2, c2, g2, e2', r2, b2, x2', l2⟩ := open_cell t1
  obtain ⟨z, e1, _, w1⟩ := DataW.trod_int Tryd.underlying3 t2
  obtain ⟨q1, l, c1, e2, x2⟩ := open_rows_cell t3
  have hcs : cs = #[.slice q0 n0 c0, .slice q2 n2 c2, .int .i64 z, .slice q1 l.length c1] := by
    have := four_cells' (cs := cs.toList) (by simpa using hsz) e0 e2' e1 e2
    exact Array.ext' this
  exact ⟨q0, n0, c0, g0, q2, n2, c2, g2, z, q1, l, c1, by rw [hcs], ⟨b0, l0, x0⟩, ⟨b2, l2, x2'⟩, w1, x2⟩
end Go.Proofs.YtdeojhcfbiekmaaDoor

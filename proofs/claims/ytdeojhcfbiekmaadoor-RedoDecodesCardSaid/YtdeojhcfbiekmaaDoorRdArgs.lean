/- Arguments: texts, and rows of a number and a text: what they are read from. No condition. -/
import Derived.Test.YtdeojhcfbiekmaaDoorRdVal
import Derived.Lib.SmallJoins
import Derived.ChangeMaps5
namespace Go.Proofs.YtdeojhcfbiekmaaDoor
open Go.ChangeShapes Go.WideShapes Go.ChangeAt Go.RowKit
set_option linter.unusedVariables false
set_option maxRecDepth 100000 in
theorem open_cell {H : Type} {enc : TypeId × Value → H} {W : World} {base fuel : Nat} {spare : Nat → Bool} {held : Bool} {cs : List Value} {x : DataW H × List MemPlace} (h : DataW.trod enc Tryd.prog W base spare held fuel 22 cs = some x) :
    ∃ (q : Option Addr) (n cap : Nat) (g : Nat → Nat), cs = [.slice q n cap] ∧ DataW.Trod enc Tryd.prog W base spare held 22 (.slice q n cap) x.1 x.2 ∧ (∀ i, i < n → g i < 256) ∧ BytesAt W q n g ∧ n ≤ cap := by
  have ht : Tryd.prog.underlying 22 = some (.slice 5) := Tryd.underlying22
  have ck : Tryd.prog.cellsOf 5 = 1 := by kernel_rfl
  have h' := h
  rcases Deep.open_slice1 ht ck h with ⟨rfl, _⟩ | ⟨a, len, cap', m, k, V, D, Pl, rfl, hb, hl, hm, hmm, _, hx⟩
  · exact ⟨none, 0, 0, zeroK, rfl, ⟨fuel, h'⟩, fun i hi => absurd hi (Nat.not_lt_zero _), .inl rfl, Nat.le_refl _⟩
  · refine (?_ : ∃ (g : Nat → Nat), (∀ i, i < len → g i < 256) ∧ BytesAt W (some a) len g).elim fun g ⟨h1, h2⟩ => ⟨some a, len, cap', g, rfl, ⟨fuel, h'⟩, h1, h2, hl⟩
    by_cases h0 : len = 0
    · exact ⟨zeroK, fun i hi => absurd hi (by omega), .inl h0⟩
    · have hnm : len ≤ m := by rw [hmm]; split <;> omega
      have each : ∀ i, i < len → ∃ x : Nat, x < 256 ∧ W.cell? (a.add i) = some (.int .u8 x) := fun i hi => by
        obtain ⟨h1, h2⟩ := hx i (by omega)
        obtain ⟨x, hx1, _, hw⟩ := DataW.trod_int Tryd.underlying5 h2
        have hb := bounds_u8 hw
        simp only [List.cons.injEq, and_true] at hx1
        refine ⟨x.toNat, by omega, ?_⟩
        rw [show ((x.toNat : Nat) : Int) = x by omega, ← hx1]; exact h1
      obtain ⟨B, o, spot⟩ := a
      obtain ⟨x0, _, hx0⟩ := each 0 (by omega)
      have hspot : spot = none := by simpa [Addr.add] using World.cell?_spot hx0
      subst hspot
      simp only [add_plain] at each hx0
      refine ⟨fun i => byteAt W B (o + i), fun i hi => ?_, .inr ⟨B, o, rfl, block_lt_of_cell hx0, fun i hi => ?_⟩⟩
      · obtain ⟨x, hx1, hx2⟩ := each i hi
        show byteAt W B (o + i) < 256
        rw [byteAt_is hx2]; exact hx1
      · obtain ⟨x, hx1, hx2⟩ := each i hi
        show W.cell? ⟨B, o + i, none⟩ = some (.int .u8 (byteAt W B (o + i) : Nat))
        rw [byteAt_is hx2]; exact hx2


/-- A text in memory: where it lies, how long it is, what it holds. -/
structure TextOf where
  p : Option Addr
  n : Nat
  c : Nat
  g : Nat → Nat
/-- A row: a number, a text. -/
structure RowOf where
  at' : Int
  b : TextOf
def rowC (r : RowOf) : List Value := [.int .i64 r.at', .slice r.b.p r.b.n r.b.c]
structure RowOk (W : World) (r : RowOf) : Prop where
  wf : (Lit.int .i64 r.at').wf = true
  lt : ∀ i, i < r.b.n → r.b.g i < 256
  bytes : BytesAt W r.b.p r.b.n r.b.g
theorem RowOk.below {W W' : World} {r : RowOf} (h : RowOk W r) (hb : Below W.heap.size W W') : RowOk W' r := ⟨h.wf, h.lt, h.bytes.below hb⟩
/-- Rows in memory. -/
structure RowsIn (W : World) (q : Option Addr) (l : List RowOf) : Prop where
  rows : RowsAt 2 rowC W q l
  ok : ∀ r ∈ l, RowOk W r
theorem RowsIn.below {W W' : World} {q : Option Addr} {l : List RowOf} (h : RowsIn W q l) (hb : Below W.heap.size W W') : RowsIn W' q l := ⟨h.rows.below hb, fun r hr => (h.ok r hr).below hb⟩
theorem two_cells' {cs : List Value} {a b : Value} (hl : cs.length = 2) (h0 : (cs.drop 0).take 1 = [a]) (h1 : (cs.drop 1).take 1 = [b]) : cs = [a, b] := by
  match cs, hl with
  | [x, y], _ => simp_all
theorem trod_two {H : Type} {enc : TypeId × Value → H} {P : Program} {w : World} {base : Nat} {spare : Nat → Bool} {held : Bool} {t : TypeId} {f0 f1 : Field} {fuel : Nat} {cs : List Value} {x : DataW H × List MemPlace} (ht : P.underlying t = some (.struct #[f0, f1])) (h : DataW.trod enc P w base spare held fuel t cs = some x) :
    ∃ y0 y1 n, cs.length = P.cellsOf t ∧ DataW.trod enc P w base spare held n f0.type ((cs.drop f0.offset).take (P.cellsOf f0.type)) = some y0 ∧ DataW.trod enc P w base spare held n f1.type ((cs.drop f1.offset).take (P.cellsOf f1.type)) = some y1 := by
  obtain ⟨xs, n, _, rfl, hl, hlen, hf⟩ := DataW.trod_struct ht h
  match xs, hlen with
  | [y0, y1], _ => exact ⟨y0, y1, n, hl, by simpa using hf 0 f0 rfl, by simpa using hf 1 f1 rfl⟩
set_option maxRecDepth 100000 in
theorem open_row {H : Type} {enc : TypeId × Value → H} {W : World} {base fuel : Nat} {spare : Nat → Bool} {held : Bool} {cs : List Value} {x : DataW H × List MemPlace} (h : DataW.trod enc Tryd.prog W base spare held fuel 72 cs = some x) : ∃ r : RowOf, cs = rowC r ∧ RowOk W r := by
  obtain ⟨y0, y1, n, hl, t0, t1⟩ := trod_two Tryd.underlying72 h
  · have hsz : Tryd.prog.cellsOf 72 = 2 := by kernel_rfl
    have k2 : Tryd.prog.cellsOf 3 = 1 := by kernel_rfl
    have k3 : Tryd.prog.cellsOf 22 = 1 := by kernel_rfl
    rw [hsz] at hl
    simp only [k2, k3] at t0 t1
    obtain ⟨z0, e0, _, w0⟩ := DataW.trod_int Tryd.underlying3 t0
    obtain ⟨q1, n1, c1, g1, e1, _, l1, b1, _⟩ := open_cell t1
    exact ⟨⟨z0, ⟨q1, n1, c1, g1⟩⟩, two_cells' hl e0 e1, ⟨w0, l1, b1⟩⟩
set_option maxRecDepth 100000 in
theorem open_rows_cell {H : Type} {enc : TypeId × Value → H} {W : World} {base fuel : Nat} {spare : Nat → Bool} {held : Bool} {cs : List Value} {x : DataW H × List MemPlace} (h : DataW.trod enc Tryd.prog W base spare held fuel 23 cs = some x) : ∃ (q : Option Addr) (l : List RowOf) (cap : Nat), cs = [.slice q l.length cap] ∧ RowsIn W q l := by
  have ht : Tryd.prog.underlying 23 = some (.slice 72) := Tryd.underlying23
  have ck : Tryd.prog.cellsOf 72 = 2 := by kernel_rfl
  rcases Deep.open_slice ht h with ⟨rfl, _⟩ | ⟨a, len, cap', m, k, D, Pl, rfl, hb, hl, hm, hmm, hdx, hx⟩
  · exact ⟨none, [], 0, rfl, .inl rfl, fun r hr => by cases hr⟩
  · by_cases h0 : len = 0
    · subst h0
      exact ⟨some a, [], cap', rfl, .inl rfl, fun r hr => by cases hr⟩
    · have hnm : len ≤ m := by rw [hmm]; split <;> omega
      obtain ⟨B, o, spot⟩ := a
      have hspot : spot = none := by
        obtain ⟨cs, h1, h2⟩ := hx 0 (by omega)
        obtain ⟨T, rfl, hT⟩ := open_row h2
        rw [ck] at h1
        have h3 := (World.cells?_some h1).2.2 0 (by omega)
        have h4 : W.cell? (((⟨B, o, spot⟩ : Addr).add (0 * 2)).add 0) = some (.int .i64 T.at') := by simpa [rowC] using h3
        have := World.cell?_spot h4
        cases spot with
        | none => rfl
        | some s => simp [Addr.add] at this
      subst hspot
      have each : ∀ i, i < len → ∃ T : RowOf, (∀ j, j < 2 → W.cell? ⟨B, o + (i * 2 + j), none⟩ = (rowC T)[j]?) ∧ RowOk W T := fun i hi => by
        obtain ⟨cs, h1, h2⟩ := hx i (by omega)
        obtain ⟨T, rfl, hT⟩ := open_row h2
        rw [ck] at h1
        refine ⟨T, fun j hj => ?_, hT⟩
        have h3 := (World.cells?_some h1).2.2 j hj
        rw [add_plain, add_plain, Nat.add_assoc] at h3
        exact h3
      obtain ⟨T1, hx0, _⟩ := each 0 (by omega)
      have hx00 : W.cell? ⟨B, o + (0 * 2 + 0), none⟩ = some (.int .i64 T1.at') := hx0 0 (by omega)
      have ch : ∀ i, ∃ T : RowOf, i < len → (∀ j, j < 2 → W.cell? ⟨B, o + (i * 2 + j), none⟩ = (rowC T)[j]?) ∧ RowOk W T := fun i => by
        by_cases hi : i < len
        · obtain ⟨T, hT⟩ := each i hi; exact ⟨T, fun _ => hT⟩
        · exact ⟨T1, fun h => absurd h hi⟩
      refine ⟨some ⟨B, o, none⟩, (List.range len).map fun i => Classical.choose (ch i), cap', by simp, .inr ⟨B, o, rfl, block_lt_of_cell hx00, fun i c hc j u hu => ?_⟩, fun r hr => ?_⟩
      · have hi : i < len := by
          have := (List.getElem?_eq_some_iff.1 hc).1
          simpa using this
        have hcc : Classical.choose (ch i) = c := by simpa [hi] using hc
        subst hcc
        have hj : j < 2 := by
          have := (List.getElem?_eq_some_iff.1 hu).1
          simpa [rowC] using this
        rw [Nat.add_assoc, Nat.mul_comm 2 i, (Classical.choose_spec (ch i) hi).1 j hj, hu]
      · obtain ⟨i, hi, rfl⟩ := List.mem_map.1 hr
        exact (Classical.choose_spec (ch i) (List.mem_range.1 hi)).2
set_option maxRecDepth 100000 in
theorem open_rows {H : Type} {enc : TypeId × Value → H} {W : World} {r : Reach} {b0 base : Nat} {spare : Nat → Bool} {held : Bool} {v : Value} {d : DataW H} {p : List MemPlace}
    (hv : Value.okWide Tryd.prog W r b0 23 v) (h : DataW.Trod enc Tryd.prog W base spare held 23 v d p) : ∃ (q : Option Addr) (l : List RowOf) (cap : Nat), v = .slice q l.length cap ∧ RowsIn W q l := by
  obtain ⟨q, n, cap, rfl⟩ := okWide_slice Tryd.underlying23 hv
  obtain ⟨fuel, hf⟩ := h
  obtain ⟨q', l, cap', e, h1⟩ := open_rows_cell hf
  have hd : (Value.cells (.slice q n cap)).toList = [.slice q n cap] := rfl
  rw [hd] at e
  simp only [List.cons.injEq, and_true] at e
  exact ⟨q', l, cap', e, h1⟩
end Go.Proofs.YtdeojhcfbiekmaaDoor

/- What comes in as arguments of layer 9's laws, opened: lists of integers; structs. No condition. -/
import Derived.Test.YtbejfpdkfpgipaaPlCrash
import Derived.Lib.SmallJoins
import Derived.ChangeMaps5
namespace Go.Proofs.Ytbejfpdkfpgipaa
open Go.ChangeShapes Go.WideShapes Go.ChangeAt Go.RowKit
set_option linter.unusedVariables false

theorem open_cell {H : Type} {enc : TypeId × Value → H} {W : World} {base fuel : Nat} {spare : Nat → Bool} {held : Bool} {cs : List Value} {x : DataW H × List MemPlace} (h : DataW.trod enc Try.prog W base spare held fuel 34 cs = some x) :
    ∃ (q : Option Addr) (n cap : Nat) (g : Nat → Nat), cs = [.slice q n cap] ∧ DataW.Trod enc Try.prog W base spare held 34 (.slice q n cap) x.1 x.2 ∧ (∀ i, i < n → g i < 256) ∧ BytesAt W q n g ∧ n ≤ cap := by
  have ht : Try.prog.underlying 34 = some (.slice 5) := Try.underlying34
  have ck : Try.prog.cellsOf 5 = 1 := by kernel_rfl
  have h' := h
  rcases Deep.open_slice1 ht ck h with ⟨rfl, _⟩ | ⟨a, len, cap', m, k, V, D, Pl, rfl, hb, hl, hm, hmm, _, hx⟩
  · exact ⟨none, 0, 0, zeroK, rfl, ⟨fuel, h'⟩, fun i hi => absurd hi (Nat.not_lt_zero _), .inl rfl, Nat.le_refl _⟩
  · refine (?_ : ∃ (g : Nat → Nat), (∀ i, i < len → g i < 256) ∧ BytesAt W (some a) len g).elim fun g ⟨h1, h2⟩ => ⟨some a, len, cap', g, rfl, ⟨fuel, h'⟩, h1, h2, hl⟩
    by_cases h0 : len = 0
    · exact ⟨zeroK, fun i hi => absurd hi (by omega), .inl h0⟩
    · have hnm : len ≤ m := by rw [hmm]; split <;> omega
      have each : ∀ i, i < len → ∃ x : Nat, x < 256 ∧ W.cell? (a.add i) = some (.int .u8 x) := fun i hi => by
        obtain ⟨h1, h2⟩ := hx i (by omega)
        obtain ⟨x, hx1, _, hw⟩ := DataW.trod_int Try.underlying5 h2
        have hb := bounds_u8 hw
        simp only [List.cons.injEq, and_true] at hx1
        refine ⟨x.toNat, by omega, ?_⟩
        rw [show ((x.toNat : Nat) : Int) = x by omega, ← hx1]; exact h1
      obtain ⟨B, o, spot⟩ := a
      obtain ⟨x0, _, hx0⟩ := each 0 (by omega)
      have hspot : spot = none := by simpa [Addr.add] using World.cell?_spot hx0
      subst hspot
      simp only [add_plain] at each hx0
      refine ⟨fun i => byteAt W B (o + i), fun i hi => ?_, .inr ⟨B, o, rfl, block_lt_of_cell hx0, fun i hi => ?_⟩⟩
      · obtain ⟨x, hx1, hx2⟩ := each i hi
        show byteAt W B (o + i) < 256
        rw [byteAt_is hx2]; exact hx1
      · obtain ⟨x, hx1, hx2⟩ := each i hi
        show W.cell? ⟨B, o + i, none⟩ = some (.int .u8 (byteAt W B (o + i) : Nat))
        rw [byteAt_is hx2]; exact hx2

theorem four_cells {cs : List Value} {a b c d : Value} (hl : cs.length = 4) (h0 : (cs.drop 0).take 1 = [a]) (h1 : (cs.drop 1).take 1 = [b]) (h2 : (cs.drop 2).take 1 = [c]) (h3 : (cs.drop 3).take 1 = [d]) : cs = [a, b, c, d] := by
  match cs, hl with
  | [x, y, z, u], _ => simp_all
theorem five_cells {cs : List Value} {a b c d f : Value} (hl : cs.length = 5) (h0 : (cs.drop 0).take 1 = [a]) (h1 : (cs.drop 1).take 1 = [b]) (h2 : (cs.drop 2).take 1 = [c]) (h3 : (cs.drop 3).take 1 = [d]) (h4 : (cs.drop 4).take 1 = [f]) : cs = [a, b, c, d, f] := by
  match cs, hl with
  | [x, y, z, u, v], _ => simp_all
theorem trod_struct5 {H : Type} {enc : TypeId × Value → H} {P : Program} {w : World} {base : Nat} {spare : Nat → Bool} {held : Bool} {t : TypeId} {f0 f1 f2 f3 f4 : Field} {fuel : Nat} {cs : List Value} {x : DataW H × List MemPlace} (ht : P.underlying t = some (.struct #[f0, f1, f2, f3, f4])) (h : DataW.trod enc P w base spare held fuel t cs = some x) :
    ∃ y0 y1 y2 y3 y4 n, cs.length = P.cellsOf t ∧ DataW.trod enc P w base spare held n f0.type ((cs.drop f0.offset).take (P.cellsOf f0.type)) = some y0 ∧
      DataW.trod enc P w base spare held n f1.type ((cs.drop f1.offset).take (P.cellsOf f1.type)) = some y1 ∧ DataW.trod enc P w base spare held n f2.type ((cs.drop f2.offset).take (P.cellsOf f2.type)) = some y2 ∧
      DataW.trod enc P w base spare held n f3.type ((cs.drop f3.offset).take (P.cellsOf f3.type)) = some y3 ∧ DataW.trod enc P w base spare held n f4.type ((cs.drop f4.offset).take (P.cellsOf f4.type)) = some y4 := by
  obtain ⟨xs, n, _, rfl, hl, hlen, hf⟩ := DataW.trod_struct ht h
  match xs, hlen with
  | [y0, y1, y2, y3, y4], _ => exact ⟨y0, y1, y2, y3, y4, n, hl, by simpa using hf 0 f0 rfl, by simpa using hf 1 f1 rfl, by simpa using hf 2 f2 rfl, by simpa using hf 3 f3 rfl, by simpa using hf 4 f4 rfl⟩

def intAt (W : World) (B o : Nat) : Int := match W.cell? ⟨B, o, none⟩ with | some (.int _ a) => a | _ => 0
theorem intAt_is {W : World} {B o : Nat} {a : Int} (h : W.cell? ⟨B, o, none⟩ = some (.int .i64 a)) : intAt W B o = a := by unfold intAt; rw [h]
def okInts (l : List Int) : Prop := (∀ j, j < l.length → -9223372036854775808 ≤ l.getD j 0 ∧ l.getD j 0 ≤ 9223372036854775807) ∧ l.length ≤ 9223372036854775807

set_option maxRecDepth 100000 in
theorem open_ints_cell {H : Type} {enc : TypeId × Value → H} {W : World} {base fuel : Nat} {spare : Nat → Bool} {held : Bool} {cs : List Value} {x : DataW H × List MemPlace} (h : DataW.trod enc Try.prog W base spare held fuel 35 cs = some x) :
    ∃ (q : Option Addr) (l : List Int) (cap : Nat), cs = [.slice q l.length cap] ∧ okInts l ∧ IntsAt W q l := by
  have ht : Try.prog.underlying 35 = some (.slice 3) := Try.underlying35
  have ck : Try.prog.cellsOf 3 = 1 := by kernel_rfl
  rcases Deep.open_slice1 ht ck h with ⟨rfl, _⟩ | ⟨a, len, cap', m, k, V, D, Pl, rfl, hb, hl, hm, hmm, _, hx⟩
  · exact ⟨none, [], 0, rfl, ⟨fun j hj => absurd hj (Nat.not_lt_zero _), Nat.zero_le _⟩, .inl rfl⟩
  · have hmx : len ≤ 9223372036854775807 := Nat.le_trans hl hm
    by_cases h0 : len = 0
    · subst h0
      exact ⟨some a, [], cap', rfl, ⟨fun j hj => absurd hj (Nat.not_lt_zero _), Nat.zero_le _⟩, .inl rfl⟩
    · have hnm : len ≤ m := by rw [hmm]; split <;> omega
      have each : ∀ i, i < len → ∃ x : Int, (-9223372036854775808 ≤ x ∧ x ≤ 9223372036854775807) ∧ W.cell? (a.add i) = some (.int .i64 x) := fun i hi => by
        obtain ⟨h1, h2⟩ := hx i (by omega)
        obtain ⟨x, hx1, _, hw⟩ := DataW.trod_int Try.underlying3 h2
        have hb := bounds_i64 hw
        simp only [List.cons.injEq, and_true] at hx1
        exact ⟨x, hb, by rw [← hx1]; exact h1⟩
      obtain ⟨B, o, spot⟩ := a
      obtain ⟨x0, _, hx0⟩ := each 0 (by omega)
      have hspot : spot = none := by simpa [Addr.add] using World.cell?_spot hx0
      subst hspot
      simp only [add_plain] at each hx0
      refine ⟨some ⟨B, o, none⟩, (List.range len).map fun i => intAt W B (o + i), cap', by simp, ⟨fun j hj => ?_, by simpa using hmx⟩, .inr ⟨B, o, rfl, block_lt_of_cell hx0, fun j hj => ?_⟩⟩
      · have hj2 : j < len := by simpa using hj
        obtain ⟨x, hx1, hx2⟩ := each j hj2
        have : ((List.range len).map fun i => intAt W B (o + i)).getD j 0 = x := by
          simp [List.getD_eq_getElem?_getD, hj2, intAt_is hx2]
        rw [this]; exact hx1
      · have hj2 : j < len := by simpa using hj
        obtain ⟨x, hx1, hx2⟩ := each j hj2
        have : ((List.range len).map fun i => intAt W B (o + i)).getD j 0 = x := by
          simp [List.getD_eq_getElem?_getD, hj2, intAt_is hx2]
        rw [this]; exact hx2
set_option maxRecDepth 100000 in
theorem open_ints {H : Type} {enc : TypeId × Value → H} {W : World} {r : Reach} {b0 base : Nat} {spare : Nat → Bool} {held : Bool} {v : Value} {d : DataW H} {p : List MemPlace}
    (hv : Value.okWide Try.prog W r b0 35 v) (h : DataW.Trod enc Try.prog W base spare held 35 v d p) : ∃ (q : Option Addr) (l : List Int) (cap : Nat), v = .slice q l.length cap ∧ okInts l ∧ IntsAt W q l := by
  obtain ⟨q, n, cap, rfl⟩ := okWide_slice Try.underlying35 hv
  obtain ⟨fuel, hf⟩ := h
  obtain ⟨q', l, cap', e, h1, h2⟩ := open_ints_cell hf
  have hd : (Value.cells (.slice q n cap)).toList = [.slice q n cap] := rfl
  rw [hd] at e
  simp only [List.cons.injEq, and_true] at e
  exact ⟨q', l, cap', e, h1, h2⟩
set_option maxRecDepth 100000 in
theorem open_asked {H : Type} {enc : TypeId × Value → H} {W : World} {r : Reach} {b0 base : Nat} {spare : Nat → Bool} {held : Bool} {v : Value} {d : DataW H} {p : List MemPlace} (hv : Value.okWide Try.prog W r b0 77 v) (h : DataW.Trod enc Try.prog W base spare held 77 v d p) :
    ∃ (q0 : Option Addr) (l0 : List Int) (c0 : Nat) (z1 z2 z3 : Int), v = .agg #[.slice q0 l0.length c0, .int .i64 z1, .int .i64 z2, .int .i64 z3] ∧ okInts l0 ∧ (Lit.int .i64 z1).wf = true ∧ (Lit.int .i64 z2).wf = true ∧ (Lit.int .i64 z3).wf = true ∧ IntsAt W q0 l0 := by
  obtain ⟨cs, rfl, hsz⟩ := okWide_struct Try.underlying77 hv
  rw [show Try.prog.cellsOf 77 = 4 by kernel_rfl] at hsz
  obtain ⟨fuel, hf⟩ := h
  obtain ⟨y0, y1, y2, y3, n, hx, hl, t0, t1, t2, t3⟩ := Joins.trod_struct4 Try.underlying77 hf
  have hdd : (Value.cells (.agg cs)).toList = cs.toList := rfl
  rw [hdd] at t0 t1 t2 t3
  have k1 : Try.prog.cellsOf 35 = 1 := by kernel_rfl
  have k2 : Try.prog.cellsOf 3 = 1 := by kernel_rfl
  simp only [k1, k2] at t0 t1 t2 t3
  obtain ⟨q0, l0, c0, e0, r0, x0⟩ := open_ints_cell t0
  obtain ⟨z1, e1, _, w1⟩ := DataW.trod_int Try.underlying3 t1
  obtain ⟨z2, e2, _, w2⟩ := DataW.trod_int Try.underlying3 t2
  obtain ⟨z3, e3, _, w3⟩ := DataW.trod_int Try.underlying3 t3
  have hcs : cs = #[.slice q0 l0.length c0, .int .i64 z1, .int .i64 z2, .int .i64 z3] := by
    have := four_cells (cs := cs.toList) (by simpa using hsz) e0 e1 e2 e3
    exact Array.ext' this
  exact ⟨q0, l0, c0, z1, z2, z3, by rw [hcs], r0, w1, w2, w3, x0⟩
set_option maxRecDepth 100000 in
theorem open_tampered {H : Type} {enc : TypeId × Value → H} {W : World} {r : Reach} {b0 base : Nat} {spare : Nat → Bool} {held : Bool} {v : Value} {d : DataW H} {p : List MemPlace} (hv : Value.okWide Try.prog W r b0 83 v) (h : DataW.Trod enc Try.prog W base spare held 83 v d p) :
    ∃ (q0 : Option Addr) (n0 c0 : Nat) (g0 : Nat → Nat) (q1 : Option Addr) (n1 c1 : Nat) (g1 : Nat → Nat) (q2 : Option Addr) (n2 c2 : Nat) (g2 : Nat → Nat) (k : Bool), v = .agg #[.slice q0 n0 c0, .slice q1 n1 c1, .slice q2 n2 c2, .bool k] ∧
      ((∀ i, i < n0 → g0 i < 256) ∧ n0 ≤ c0 ∧ BytesAt W q0 n0 g0) ∧ ((∀ i, i < n1 → g1 i < 256) ∧ n1 ≤ c1 ∧ BytesAt W q1 n1 g1) ∧ ((∀ i, i < n2 → g2 i < 256) ∧ n2 ≤ c2 ∧ BytesAt W q2 n2 g2) := by
  obtain ⟨cs, rfl, hsz⟩ := okWide_struct Try.underlying83 hv
  rw [show Try.prog.cellsOf 83 = 4 by kernel_rfl] at hsz
  obtain ⟨fuel, hf⟩ := h
  obtain ⟨y0, y1, y2, y3, n, hx, hl, t0, t1, t2, t3⟩ := Joins.trod_struct4 Try.underlying83 hf
  have hdd : (Value.cells (.agg cs)).toList = cs.toList := rfl
  rw [hdd] at t0 t1 t2 t3
  have k1 : Try.prog.cellsOf 34 = 1 := by kernel_rfl
  have k2 : Try.prog.cellsOf 4 = 1 := by kernel_rfl
  simp only [k1, k2] at t0 t1 t2 t3
  obtain ⟨q0, n0, c0, g0, e0, _, b0, x0, l0⟩ := open_cell t0
  obtain ⟨q1, n1, c1, g1, e1, _, b1, x1, l1⟩ := open_cell t1
  obtain ⟨q2, n2, c2, g2, e2, _, b2, x2, l2⟩ := open_cell t2
  obtain ⟨k, e3, _⟩ := DataW.trod_bool Try.underlying4 t3
  have hcs : cs = #[.slice q0 n0 c0, .slice q1 n1 c1, .slice q2 n2 c2, .bool k] := by
    have := four_cells (cs := cs.toList) (by simpa using hsz) e0 e1 e2 e3
    exact Array.ext' this
  exact ⟨q0, n0, c0, g0, q1, n1, c1, g1, q2, n2, c2, g2, k, by rw [hcs], ⟨b0, l0, x0⟩, ⟨b1, l1, x1⟩, ⟨b2, l2, x2⟩⟩
end Go.Proofs.Ytbejfpdkfpgipaa

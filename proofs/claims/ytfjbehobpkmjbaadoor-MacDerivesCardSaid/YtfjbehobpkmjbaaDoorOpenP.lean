/- Structs of slices of bytes, a string and ints that come in as arguments, opened. No condition. -/
import Derived.Test.YtfjbehobpkmjbaaDoorDigLib
import Derived.Lib.SmallJoins
import Derived.ChangeMaps5
namespace Go.Proofs.YtfjbehobpkmjbaaDoor
open Go.ChangeShapes Go.WideShapes Go.ChangeAt Go.RowKit
set_option linter.unusedVariables false

/-- A cell that is a slice of bytes. -/
theorem open_cell {H : Type} {enc : TypeId × Value → H} {W : World} {base fuel : Nat} {spare : Nat → Bool} {held : Bool} {cs : List Value} {x : DataW H × List MemPlace} (h : DataW.trod enc Tryd.prog W base spare held fuel 22 cs = some x) :
    ∃ (q : Option Addr) (n cap : Nat) (g : Nat → Nat), cs = [.slice q n cap] ∧ DataW.Trod enc Tryd.prog W base spare held 22 (.slice q n cap) x.1 x.2 ∧ (∀ i, i < n → g i < 256) ∧ BytesAt W q n g ∧ n ≤ cap := by
  have ht : Tryd.prog.underlying 22 = some (.slice 5) := Tryd.underlying22
  have ck : Tryd.prog.cellsOf 5 = 1 := by kernel_rfl
  have h' := h
  rcases Deep.open_slice1 ht ck h with ⟨rfl, _⟩ | ⟨a, len, cap', m, k, V, D, Pl, rfl, hb, hl, hm, hmm, _, hx⟩
  · exact ⟨none, 0, 0, zeroK, rfl, ⟨fuel, h'⟩, fun i hi => absurd hi (Nat.not_lt_zero _), .inl rfl, Nat.le_refl _⟩
  · refine (?_ : ∃ (g : Nat → Nat), (∀ i, i < len → g i < 256) ∧ BytesAt W (some a) len g).elim fun g ⟨h1, h2⟩ => ⟨some a, len, cap', g, rfl, ⟨fuel, h'⟩, h1, h2, hl⟩
    by_cases h0 : len = 0
    · exact ⟨zeroK, fun i hi => absurd hi (by omega), .inl h0⟩
    · have hnm : len ≤ m := by rw [hmm]; split <;> omega
      have each : ∀ i, i < len → ∃ x : Nat, x < 256 ∧ W.cell? (a.add i) = some (.int .u8 x) := fun i hi => by
        obtain ⟨h1, h2⟩ := hx i (by omega)
        obtain ⟨x, hx1, _, hw⟩ := DataW.trod_int Tryd.underlying5 h2
        have hb := bounds_u8 hw
        simp only [List.cons.injEq, and_true] at hx1
        refine ⟨x.toNat, by omega, ?_⟩
        rw [show ((x.toNat : Nat) : Int) = x by omega, ← hx1]; exact h1
      obtain ⟨B, o, spot⟩ := a
      obtain ⟨x0, _, hx0⟩ := each 0 (by omega)
      have hspot : spot = none := by simpa [Addr.add] using World.cell?_spot hx0
      subst hspot
      simp only [add_plain] at each hx0
      refine ⟨fun i => byteAt W B (o + i), fun i hi => ?_, .inr ⟨B, o, rfl, block_lt_of_cell hx0, fun i hi => ?_⟩⟩
      · obtain ⟨x, hx1, hx2⟩ := each i hi
        show byteAt W B (o + i) < 256
        rw [byteAt_is hx2]; exact hx1
      · obtain ⟨x, hx1, hx2⟩ := each i hi
        show W.cell? ⟨B, o + i, none⟩ = some (.int .u8 (byteAt W B (o + i) : Nat))
        rw [byteAt_is hx2]; exact hx2
theorem weights_in {H : Type} {ts : List TypeId} {ds : List (DataW H)} (hz : (DataW.weightsEach Tryd.prog ts ds).all (· ≤ reachBytes) = true) {j : Nat} {t : TypeId} {d : DataW H} (ht : ts[j]? = some t) (hd : ds[j]? = some d) : (d.weights Tryd.prog t).all (· ≤ reachBytes) = true :=
  List.all_eq_true.2 fun n hn => List.all_eq_true.1 hz n (DataW.weights_mem_each ht hd n hn)
theorem four_cells {cs : List Value} {a b c d : Value} (hl : cs.length = 4) (h0 : (cs.drop 0).take 1 = [a]) (h1 : (cs.drop 1).take 1 = [b]) (h2 : (cs.drop 2).take 1 = [c]) (h3 : (cs.drop 3).take 1 = [d]) : cs = [a, b, c, d] := by
  match cs, hl with
  | [x, y, z, u], _ => simp_all
theorem open_parted {H : Type} {enc : TypeId × Value → H} {W : World} {r : Reach} {b0 base : Nat} {spare : Nat → Bool} {held : Bool} {v : Value} {d : DataW H} {p : List MemPlace} (hv : Value.okWide Tryd.prog W r b0 34 v) (h : DataW.Trod enc Tryd.prog W base spare held 34 v d p)
    {ts : List TypeId} {ds : List (DataW H)} (hz : (DataW.weightsEach Tryd.prog ts ds).all (· ≤ reachBytes) = true) {j : Nat} (ht : ts[j]? = some 34) (hd : ds[j]? = some d) :
    ∃ (q0 : Option Addr) (n0 c0 : Nat) (g0 : Nat → Nat) (q1 : Option Addr) (n1 c1 : Nat) (g1 : Nat → Nat) (q2 : Option Addr) (n2 c2 : Nat) (g2 : Nat → Nat) (z : Int), v = .agg #[.slice q0 n0 c0, .slice q1 n1 c1, .slice q2 n2 c2, .int .i64 z] ∧
      ((∀ i, i < n0 → g0 i < 256) ∧ n0 ≤ c0 ∧ n0 ≤ 140737488351232) ∧ ((∀ i, i < n1 → g1 i < 256) ∧ n1 ≤ c1 ∧ n1 ≤ 140737488351232) ∧ ((∀ i, i < n2 → g2 i < 256) ∧ n2 ≤ c2 ∧ n2 ≤ 140737488351232) ∧ BytesAt W q0 n0 g0 ∧ BytesAt W q1 n1 g1 ∧ BytesAt W q2 n2 g2 := by
  obtain ⟨cs, rfl, hsz⟩ := okWide_struct Tryd.underlying34 hv
  rw [show Tryd.prog.cellsOf 34 = 4 by kernel_rfl] at hsz
  obtain ⟨fuel, hf⟩ := h
  obtain ⟨y0, y1, y2, y3, n, hx, hl, t0, t1, t2, t3⟩ := Joins.trod_struct4 Tryd.underlying34 hf
  have hdd : (Value.cells (.agg cs)).toList = cs.toList := rfl
  rw [hdd] at t0 t1 t2 t3
  have k1 : Tryd.prog.cellsOf 22 = 1 := by kernel_rfl
  have k2 : Tryd.prog.cellsOf 3 = 1 := by kernel_rfl
  simp only [k1, k2] at t0 t1 t2 t3
  obtain ⟨q0, n0, c0, g0, e0, r0, b0, x0, l0⟩ := open_cell t0
  obtain ⟨q1, n1, c1, g1, e1, r1, b1, x1, l1⟩ := open_cell t1
  obtain ⟨q2, n2, c2, g2, e2, r2, b2, x2, l2⟩ := open_cell t2
  obtain ⟨z, e3, _, _⟩ := DataW.trod_int Tryd.underlying3 t3
  have hw := weights_in hz ht hd
  simp only [Prod.mk.injEq] at hx
  rw [hx.1] at hw
  have hw2 : (DataW.weightsEach Tryd.prog [22, 22, 22, 3] [y0.1, y1.1, y2.1, y3.1]).all (· ≤ reachBytes) = true := by
    simpa [DataW.weights, Tryd.underlying34] using hw
  have hcs : cs = #[.slice q0 n0 c0, .slice q1 n1 c1, .slice q2 n2 c2, .int .i64 z] := by
    have := four_cells (cs := cs.toList) (by simpa using hsz) e0 e1 e2 e3
    exact Array.ext' this
  exact ⟨q0, n0, c0, g0, q1, n1, c1, g1, q2, n2, c2, g2, z, by rw [hcs], ⟨b0, l0, open_size r0 hw2 (j := 0) rfl rfl⟩, ⟨b1, l1, open_size r1 hw2 (j := 1) rfl rfl⟩, ⟨b2, l2, open_size r2 hw2 (j := 2) rfl rfl⟩, x0, x1, x2⟩
end Go.Proofs.YtfjbehobpkmjbaaDoor

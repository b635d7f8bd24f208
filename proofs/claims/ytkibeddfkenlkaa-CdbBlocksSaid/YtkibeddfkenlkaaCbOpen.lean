/- The laws' arguments opened: commands. No condition. -/
import Derived.Test.YtkibeddfkenlkaaCbLaw
namespace Go.Proofs.Ytkibeddfkenlkaa
open Go.ChangeShapes Go.WideShapes Go.ChangeAt Go.RowKit
set_option linter.unusedVariables false
theorem okI_wf {z : Int} (h : (Lit.int .i64 z).wf = true) : okI z := by have := bounds_i64 h; exact ⟨by omega, by omega⟩
theorem six_cells {cs : List Value} {a b c d f g : Value} (hl : cs.length = 6) (h0 : (cs.drop 0).take 1 = [a]) (h1 : (cs.drop 1).take 1 = [b]) (h2 : (cs.drop 2).take 1 = [c]) (h3 : (cs.drop 3).take 1 = [d]) (h4 : (cs.drop 4).take 1 = [f]) (h5 : (cs.drop 5).take 1 = [g]) : cs = [a, b, c, d, f, g] := by
  match cs, hl with
  | [x, y, z, u, v, t], _ => simp_all
theorem trod_struct6' {H : Type} {enc : TypeId × Value → H} {P : Program} {w : World} {base : Nat} {spare : Nat → Bool} {held : Bool} {t : TypeId} {f0 f1 f2 f3 f4 f5 : Field} {fuel : Nat} {cs : List Value} {x : DataW H × List MemPlace} (ht : P.underlying t = some (.struct #[f0, f1, f2, f3, f4, f5])) (h : DataW.trod enc P w base spare held fuel t cs = some x) :
    ∃ y0 y1 y2 y3 y4 y5 n, cs.length = P.cellsOf t ∧ DataW.trod enc P w base spare held n f0.type ((cs.drop f0.offset).take (P.cellsOf f0.type)) = some y0 ∧ DataW.trod enc P w base spare held n f1.type ((cs.drop f1.offset).take (P.cellsOf f1.type)) = some y1 ∧ DataW.trod enc P w base spare held n f2.type ((cs.drop f2.offset).take (P.cellsOf f2.type)) = some y2 ∧ DataW.trod enc P w base spare held n f3.type ((cs.drop f3.offset).take (P.cellsOf f3.type)) = some y3 ∧ DataW.trod enc P w base spare held n f4.type ((cs.drop f4.offset).take (P.cellsOf f4.type)) = some y4 ∧ DataW.trod enc P w base spare held n f5.type ((cs.drop f5.offset).take (P.cellsOf f5.type)) = some y5 := by
  obtain ⟨xs, n, _, rfl, hl, hlen, hf⟩ := DataW.trod_struct ht h
  match xs, hlen with
  | [y0, y1, y2, y3, y4, y5], _ => exact ⟨y0, y1, y2, y3, y4, y5, n, hl, by simpa using hf 0 f0 rfl, by simpa using hf 1 f1 rfl, by simpa using hf 2 f2 rfl, by simpa using hf 3 f3 rfl, by simpa using hf 4 f4 rfl, by simpa using hf 5 f5 rfl⟩
set_option maxRecDepth 100000 in
theorem open_op_cells {H : Type} {enc : TypeId × Value → H} {W : World} (fuel : Nat) (cs : List Value) (x : DataW H × List MemPlace) (base : Nat) (spare : Nat → Bool) (held : Bool) (h : DataW.trod enc Try.prog W base spare held fuel roT cs = some x) : ∃ c : ROp, cs = ropC c ∧ c.ok := by
  obtain ⟨y0, y1, y2, y3, y4, y5, n, hl, t0, t1, t2, t3, t4, t5⟩ := trod_struct6' Try.underlying24 h
  have hsz : Try.prog.cellsOf roT = 6 := by kernel_rfl
  have k1 : Try.prog.cellsOf 4 = 1 := by kernel_rfl
  have k2 : Try.prog.cellsOf 3 = 1 := by kernel_rfl
  rw [hsz] at hl
  simp only [k1, k2] at t0 t1 t2 t3 t4 t5
  obtain ⟨z0, e0, _, w0⟩ := DataW.trod_int Try.underlying3 t0
  obtain ⟨z1, e1, _, w1⟩ := DataW.trod_int Try.underlying3 t1
  obtain ⟨z2, e2, _, w2⟩ := DataW.trod_int Try.underlying3 t2
  obtain ⟨z3, e3, _, w3⟩ := DataW.trod_int Try.underlying3 t3
  obtain ⟨z4, e4, _, w4⟩ := DataW.trod_int Try.underlying3 t4
  obtain ⟨z5, e5, _⟩ := DataW.trod_bool Try.underlying4 t5
  exact ⟨⟨z0, z1, z2, z3, z4, z5⟩, six_cells hl e0 e1 e2 e3 e4 e5, ⟨okI_wf w0, okI_wf w1, okI_wf w2, okI_wf w3, okI_wf w4⟩⟩
theorem open_bytes_cell {H : Type} {enc : TypeId × Value → H} {W : World} {base fuel : Nat} {spare : Nat → Bool} {held : Bool} {cs : List Value} {x : DataW H × List MemPlace} (hf : DataW.trod enc Try.prog W base spare held fuel 22 cs = some x) :
    ∃ (q : Option Addr) (n cap : Nat) (g : Nat → Nat), cs = [.slice q n cap] ∧ (∀ i, i < n → g i < 256) ∧ BytesAt W q n g ∧ n ≤ cap ∧ cap ≤ maxLen := by
  have ht : Try.prog.underlying 22 = some (.slice 5) := Try.underlying22
  have ck : Try.prog.cellsOf 5 = 1 := by kernel_rfl
  rcases Deep.open_slice1 ht ck hf with ⟨h0, _⟩ | ⟨a, len, cap', m, k, V, D, Pl, h0, hb, hl, hm, hmm, _, hx⟩
  · exact ⟨none, 0, 0, zeroK, h0, fun i hi => absurd hi (Nat.not_lt_zero _), .inl rfl, Nat.le_refl _, Nat.zero_le _⟩
  · obtain ⟨n, hn⟩ : ∃ n, len = n := ⟨_, rfl⟩
    subst hn
    by_cases hz : len = 0
    · exact ⟨some a, len, cap', zeroK, h0, fun i hi => absurd hi (by omega), .inl hz, hl, hm⟩
    · have hnm : len ≤ m := by rw [hmm]; split <;> omega
      have each : ∀ i, i < len → ∃ x : Nat, x < 256 ∧ W.cell? (a.add i) = some (.int .u8 x) := fun i hi => by
        obtain ⟨h1, h2⟩ := hx i (by omega)
        obtain ⟨x, hx1, _, hw⟩ := DataW.trod_int Try.underlying5 h2
        have hb := bounds_u8 hw
        simp only [List.cons.injEq, and_true] at hx1
        refine ⟨x.toNat, by omega, ?_⟩
        rw [show ((x.toNat : Nat) : Int) = x by omega, ← hx1]; exact h1
      obtain ⟨B, o, spot⟩ := a
      obtain ⟨x0, _, hx0⟩ := each 0 (by omega)
      have hspot : spot = none := by simpa [Addr.add] using World.cell?_spot hx0
      subst hspot
      simp only [add_plain] at each hx0
      refine ⟨_, len, cap', fun i => byteAt W B (o + i), h0, fun i hi => ?_, .inr ⟨B, o, rfl, block_lt_of_cell hx0, fun i hi => ?_⟩, hl, hm⟩
      · obtain ⟨x, hx1, hx2⟩ := each i hi
        show byteAt W B (o + i) < 256
        rw [byteAt_is hx2]; exact hx1
      · obtain ⟨x, hx1, hx2⟩ := each i hi
        show W.cell? ⟨B, o + i, none⟩ = some (.int .u8 (byteAt W B (o + i) : Nat))
        rw [byteAt_is hx2]; exact hx2
end Go.Proofs.Ytkibeddfkenlkaa

/- Slices of bytes, made: all noughts. Condition: no more than 100000 bytes. -/
namespace Go.Proofs.Ytkibeddfkenlkaa
open Go.ChangeShapes Go.WideShapes Go.ChangeAt Go.RowKit

theorem eleven_cells {cs : List Value} {a b c d f : Value} {l : List Value} (hl : cs.length = 11) (h0 : (cs.drop 0).take 1 = [a]) (h1 : (cs.drop 1).take 1 = [b]) (h2 : (cs.drop 2).take 1 = [c]) (h3 : (cs.drop 3).take 1 = [d]) (h4 : (cs.drop 4).take 1 = [f]) (h5 : (cs.drop 5).take 6 = l) : cs = a :: b :: c :: d :: f :: l := by
  match cs, hl with
  | [x0, x1, x2, x3, x4, x5, x6, x7, x8, x9, x10], _ => simp_all
set_option maxRecDepth 100000 in
theorem open_cmd_cells {H : Type} {enc : TypeId × Value → H} {W : World} (fuel : Nat) (cs : List Value) (x : DataW H × List MemPlace) (base : Nat) (spare : Nat → Bool) (held : Bool) (h : DataW.trod enc Try.prog W base spare held fuel cmT cs = some x) :
    ∃ (q : Option Addr) (n c : Nat) (g : Nat → Nat) (r : CmdOf), cs = (cmA q n c r).toList ∧ r.ok ∧ (∀ i, i < n → g i < 256) ∧ BytesAt W q n g ∧ n ≤ c ∧ c ≤ maxLen := by
  obtain ⟨y0, y1, y2, y3, y4, y5, n, hl, t0, t1, t2, t3, t4, t5⟩ := trod_struct6' Try.underlying26 h
  have hsz : Try.prog.cellsOf cmT = 11 := by kernel_rfl
  have k0 : Try.prog.cellsOf 22 = 1 := by kernel_rfl
  have k1 : Try.prog.cellsOf roT = 6 := by kernel_rfl
  have k2 : Try.prog.cellsOf 3 = 1 := by kernel_rfl
  rw [hsz] at hl
  simp only [k0, k2] at t0 t1 t2 t3 t4
  have t5' : DataW.trod enc Try.prog W base spare held n roT ((cs.drop 5).take 6) = some y5 := by rw [← k1]; exact t5
  obtain ⟨z0, e0, _, w0⟩ := DataW.trod_int Try.underlying3 t0
  obtain ⟨z1, e1, _, w1⟩ := DataW.trod_int Try.underlying3 t1
  obtain ⟨z2, e2, _, w2⟩ := DataW.trod_int Try.underlying3 t2
  obtain ⟨z3, e3, _, w3⟩ := DataW.trod_int Try.underlying3 t3
  obtain ⟨q, m, c, g, e4, b1, b2, b3, b4⟩ := open_bytes_cell t4
  obtain ⟨o, e5, ho⟩ := open_op_cells _ _ _ _ _ _ t5'
  exact ⟨q, m, c, g, ⟨z0, z1, z2, z3, o⟩, eleven_cells hl e0 e1 e2 e3 e4 e5, ⟨okI_wf w0, okI_wf w1, okI_wf w2, okI_wf w3, ho⟩, b1, b2, b3, b4⟩
set_option maxRecDepth 100000 in
theorem open_cmd {H : Type} {enc : TypeId × Value → H} {W : World} {r : Reach} {b0 base : Nat} {spare : Nat → Bool} {held : Bool} {v : Value} {d : DataW H} {p : List MemPlace} (hv : Value.okWide Try.prog W r b0 cmT v) (h : DataW.Trod enc Try.prog W base spare held cmT v d p) :
    ∃ (q : Option Addr) (n c : Nat) (g : Nat → Nat) (x : CmdOf), v = .agg (cmA q n c x) ∧ x.ok ∧ (∀ i, i < n → g i < 256) ∧ BytesAt W q n g ∧ n ≤ c ∧ c ≤ maxLen := by
  obtain ⟨cs, rfl, hsz⟩ := okWide_struct (t := cmT) Try.underlying26 hv
  obtain ⟨fuel, hf⟩ := h
  have hdd : (Value.cells (.agg cs)).toList = cs.toList := rfl
  rw [hdd] at hf
  obtain ⟨q, n, c, g, x, hc, h1, h2, h3, h4, h5⟩ := open_cmd_cells _ _ _ _ _ _ hf
  exact ⟨q, n, c, g, x, by rw [← Array.toArray_toList (xs := cmA q n c x), ← hc], h1, h2, h3, h4, h5⟩
end Go.Proofs.Ytkibeddfkenlkaa

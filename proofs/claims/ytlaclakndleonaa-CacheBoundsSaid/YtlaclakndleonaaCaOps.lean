/- The laws' arguments opened: one operation, a list of operations, a list of integers; the line of an operation. No condition. -/
import Derived.Test.YtlaclakndleonaaCaState
import Derived.Lib.SmallJoins
import Derived.ChangeMaps5
namespace Go.Proofs.Ytlaclakndleonaa
open Go.ChangeShapes Go.WideShapes Go.ChangeAt Go.RowKit
set_option linter.unusedVariables false
def IntsAt (w : World) (p : Option Addr) (l : List Int) : Prop := l = [] ∨ ∃ B o, p = some ⟨B, o, none⟩ ∧ B < w.heap.size ∧ ∀ j, j < l.length → w.cell? ⟨B, o + j, none⟩ = some (.int .i64 (l.getD j 0))
theorem IntsAt.below {w w' : World} {p : Option Addr} {l : List Int} (h : IntsAt w p l) (hb : Below w.heap.size w w') : IntsAt w' p l := by
  rcases h with h | ⟨B, o, e, hB, hc⟩
  · exact .inl h
  · exact .inr ⟨B, o, e, Nat.lt_of_lt_of_le hB hb.size, fun j hj => (hb.cell (p := ⟨B, o + j, none⟩) hB).trans (hc j hj)⟩
def intAt (W : World) (B o : Nat) : Int := match W.cell? ⟨B, o, none⟩ with | some (.int _ a) => a | _ => 0
theorem intAt_is {W : World} {B o : Nat} {a : Int} (h : W.cell? ⟨B, o, none⟩ = some (.int .i64 a)) : intAt W B o = a := by unfold intAt; rw [h]
def okInts (l : List Int) : Prop := (∀ j, j < l.length → -9223372036854775808 ≤ l.getD j 0 ∧ l.getD j 0 ≤ 9223372036854775807) ∧ l.length ≤ 9223372036854775807

theorem five_cells {cs : List Value} {a b c d f : Value} (hl : cs.length = 5) (h0 : (cs.drop 0).take 1 = [a]) (h1 : (cs.drop 1).take 1 = [b]) (h2 : (cs.drop 2).take 1 = [c]) (h3 : (cs.drop 3).take 1 = [d]) (h4 : (cs.drop 4).take 1 = [f]) : cs = [a, b, c, d, f] := by
  match cs, hl with
  | [x, y, z, u, v], _ => simp_all
theorem trod_struct5 {H : Type} {enc : TypeId × Value → H} {P : Program} {w : World} {base : Nat} {spare : Nat → Bool} {held : Bool} {t : TypeId} {f0 f1 f2 f3 f4 : Field} {fuel : Nat} {cs : List Value} {x : DataW H × List MemPlace} (ht : P.underlying t = some (.struct #[f0, f1, f2, f3, f4])) (h : DataW.trod enc P w base spare held fuel t cs = some x) :
    ∃ y0 y1 y2 y3 y4 n, cs.length = P.cellsOf t ∧ DataW.trod enc P w base spare held n f0.type ((cs.drop f0.offset).take (P.cellsOf f0.type)) = some y0 ∧
      DataW.trod enc P w base spare held n f1.type ((cs.drop f1.offset).take (P.cellsOf f1.type)) = some y1 ∧ DataW.trod enc P w base spare held n f2.type ((cs.drop f2.offset).take (P.cellsOf f2.type)) = some y2 ∧
      DataW.trod enc P w base spare held n f3.type ((cs.drop f3.offset).take (P.cellsOf f3.type)) = some y3 ∧ DataW.trod enc P w base spare held n f4.type ((cs.drop f4.offset).take (P.cellsOf f4.type)) = some y4 := by
  obtain ⟨xs, n, _, rfl, hl, hlen, hf⟩ := DataW.trod_struct ht h
  match xs, hlen with
  | [y0, y1, y2, y3, y4], _ => exact ⟨y0, y1, y2, y3, y4, n, hl, by simpa using hf 0 f0 rfl, by simpa using hf 1 f1 rfl, by simpa using hf 2 f2 rfl, by simpa using hf 3 f3 rfl, by simpa using hf 4 f4 rfl⟩

set_option maxRecDepth 100000 in
theorem open_ints_cell {H : Type} {enc : TypeId × Value → H} {W : World} {base fuel : Nat} {spare : Nat → Bool} {held : Bool} {cs : List Value} {x : DataW H × List MemPlace} (h : DataW.trod enc Try.prog W base spare held fuel 58 cs = some x) :
    ∃ (q : Option Addr) (l : List Int) (cap : Nat), cs = [.slice q l.length cap] ∧ okInts l ∧ IntsAt W q l := by
  have ht : Try.prog.underlying 58 = some (.slice 3) := Try.underlying58
  have ck : Try.prog.cellsOf 3 = 1 := by kernel_rfl
  rcases Deep.open_slice1 ht ck h with ⟨rfl, _⟩ | ⟨a, len, cap', m, k, V, D, Pl, rfl, hb, hl, hm, hmm, _, hx⟩
  · exact ⟨none, [], 0, rfl, ⟨fun j hj => absurd hj (Nat.not_lt_zero _), Nat.zero_le _⟩, .inl rfl⟩
  · have hmx : len ≤ 9223372036854775807 := Nat.le_trans hl hm
    by_cases h0 : len = 0
    · subst h0
      exact ⟨some a, [], cap', rfl, ⟨fun j hj => absurd hj (Nat.not_lt_zero _), Nat.zero_le _⟩, .inl rfl⟩
    · have hnm : len ≤ m := by rw [hmm]; split <;> omega
      have each : ∀ i, i < len → ∃ x : Int, (-9223372036854775808 ≤ x ∧ x ≤ 9223372036854775807) ∧ W.cell? (a.add i) = some (.int .i64 x) := fun i hi => by
        obtain ⟨h1, h2⟩ := hx i (by omega)
        obtain ⟨x, hx1, _, hw⟩ := DataW.trod_int Try.underlying3 h2
        have hb := bounds_i64 hw
        simp only [List.cons.injEq, and_true] at hx1
        exact ⟨x, hb, by rw [← hx1]; exact h1⟩
      obtain ⟨B, o, spot⟩ := a
      obtain ⟨x0, _, hx0⟩ := each 0 (by omega)
      have hspot : spot = none := by simpa [Addr.add] using World.cell?_spot hx0
      subst hspot
      simp only [add_plain] at each hx0
      refine ⟨some ⟨B, o, none⟩, (List.range len).map fun i => intAt W B (o + i), cap', by simp, ⟨fun j hj => ?_, by simpa using hmx⟩, .inr ⟨B, o, rfl, block_lt_of_cell hx0, fun j hj => ?_⟩⟩
      · have hj2 : j < len := by simpa using hj
        obtain ⟨x, hx1, hx2⟩ := each j hj2
        have : ((List.range len).map fun i => intAt W B (o + i)).getD j 0 = x := by
          simp [List.getD_eq_getElem?_getD, hj2, intAt_is hx2]
        rw [this]; exact hx1
      · have hj2 : j < len := by simpa using hj
        obtain ⟨x, hx1, hx2⟩ := each j hj2
        have : ((List.range len).map fun i => intAt W B (o + i)).getD j 0 = x := by
          simp [List.getD_eq_getElem?_getD, hj2, intAt_is hx2]
        rw [this]; exact hx2
set_option maxRecDepth 100000 in
theorem open_ints {H : Type} {enc : TypeId × Value → H} {W : World} {r : Reach} {b0 base : Nat} {spare : Nat → Bool} {held : Bool} {v : Value} {d : DataW H} {p : List MemPlace}
    (hv : Value.okWide Try.prog W r b0 58 v) (h : DataW.Trod enc Try.prog W base spare held 58 v d p) : ∃ (q : Option Addr) (l : List Int) (cap : Nat), v = .slice q l.length cap ∧ okInts l ∧ IntsAt W q l := by
  obtain ⟨q, n, cap, rfl⟩ := okWide_slice Try.underlying58 hv
  obtain ⟨fuel, hf⟩ := h
  obtain ⟨q', l, cap', e, h1, h2⟩ := open_ints_cell hf
  have hd : (Value.cells (.slice q n cap)).toList = [.slice q n cap] := rfl
  rw [hd] at e
  simp only [List.cons.injEq, and_true] at e
  exact ⟨q', l, cap', e, h1, h2⟩

/-- One operation. -/
structure OpOf where
  kind : Int
  u : Int
  b : Int
  byte : Nat
  d : Bool
def OpOf.cells (c : OpOf) : List Value := [.int .i64 c.kind, .int .i64 c.u, .int .i64 c.b, .int .u8 c.byte, .bool c.d]
structure OpOf.ok (c : OpOf) : Prop where
  k : okI c.kind
  u : okI c.u
  b : okI c.b
  byte : c.byte < 256
def oneB (n : Nat) (j : Nat) : Nat := if j = 0 then n else 0
def OpOf.line (c : OpOf) : LineOf := ⟨c.u, c.b, Go.Proofs.Ytlaclakndleonaa.mk 128 (oneB c.byte), c.d⟩
theorem OpOf.line_ok {c : OpOf} (h : c.ok) : c.line.ok := ⟨isSec_mk fun i _ => by have := h.byte; unfold oneB; split <;> omega, h.u, h.b⟩
theorem okI_wf {z : Int} (h : (Lit.int .i64 z).wf = true) : okI z := by have := bounds_i64 h; exact ⟨by omega, by omega⟩
set_option maxRecDepth 100000 in
theorem open_op_cells {H : Type} {enc : TypeId × Value → H} {W : World} {base fuel : Nat} {spare : Nat → Bool} {held : Bool} {cs : List Value} {x : DataW H × List MemPlace} (h : DataW.trod enc Try.prog W base spare held fuel 38 cs = some x) : ∃ c : OpOf, cs = c.cells ∧ c.ok := by
  obtain ⟨y0, y1, y2, y3, y4, n, hl, t0, t1, t2, t3, t4⟩ := trod_struct5 Try.underlying38 h
  have hsz : Try.prog.cellsOf 38 = 5 := by kernel_rfl
  have k1 : Try.prog.cellsOf 4 = 1 := by kernel_rfl
  have k2 : Try.prog.cellsOf 3 = 1 := by kernel_rfl
  have k3 : Try.prog.cellsOf 5 = 1 := by kernel_rfl
  rw [hsz] at hl
  simp only [k1, k2, k3] at t0 t1 t2 t3 t4
  obtain ⟨z0, e0, _, w0⟩ := DataW.trod_int Try.underlying3 t0
  obtain ⟨z1, e1, _, w1⟩ := DataW.trod_int Try.underlying3 t1
  obtain ⟨z2, e2, _, w2⟩ := DataW.trod_int Try.underlying3 t2
  obtain ⟨z3, e3, _, w3⟩ := DataW.trod_int Try.underlying5 t3
  obtain ⟨z4, e4, _⟩ := DataW.trod_bool Try.underlying4 t4
  have b3 := bounds_u8 w3
  obtain ⟨n3, rfl⟩ : ∃ n : Nat, z3 = (n : Int) := ⟨z3.toNat, by omega⟩
  exact ⟨⟨z0, z1, z2, n3, z4⟩, five_cells hl e0 e1 e2 e3 e4, ⟨okI_wf w0, okI_wf w1, okI_wf w2, by show n3 < 256; omega⟩⟩
set_option maxRecDepth 100000 in
theorem open_op {H : Type} {enc : TypeId × Value → H} {W : World} {r : Reach} {b0 base : Nat} {spare : Nat → Bool} {held : Bool} {v : Value} {d : DataW H} {p : List MemPlace} (hv : Value.okWide Try.prog W r b0 38 v) (h : DataW.Trod enc Try.prog W base spare held 38 v d p) :
    ∃ c : OpOf, v = .agg c.cells.toArray ∧ c.ok := by
  obtain ⟨cs, rfl, hsz⟩ := okWide_struct Try.underlying38 hv
  obtain ⟨fuel, hf⟩ := h
  have hdd : (Value.cells (.agg cs)).toList = cs.toList := rfl
  rw [hdd] at hf
  obtain ⟨c, hc, hok⟩ := open_op_cells hf
  exact ⟨c, by rw [← hc], hok⟩
/-- Operations in a slice. -/
def opsC (c : OpOf) : List Value := c.cells
def OpsAt (W : World) (q : Option Addr) (l : List OpOf) : Prop := RowsAt 5 opsC W q l
set_option maxRecDepth 100000 in
theorem open_ops {H : Type} {enc : TypeId × Value → H} {W : World} {r : Reach} {b0 base : Nat} {spare : Nat → Bool} {held : Bool} {v : Value} {d : DataW H} {p : List MemPlace}
    (hv : Value.okWide Try.prog W r b0 22 v) (h : DataW.Trod enc Try.prog W base spare held 22 v d p) : ∃ (q : Option Addr) (l : List OpOf) (cap : Nat), v = .slice q l.length cap ∧ (∀ c ∈ l, c.ok) ∧ OpsAt W q l ∧ l.length ≤ 9223372036854775807 := by
  obtain ⟨q, n, cap, rfl⟩ := okWide_slice Try.underlying22 hv
  obtain ⟨fuel, hf⟩ := h
  have ht : Try.prog.underlying 22 = some (.slice 38) := Try.underlying22
  have ck : Try.prog.cellsOf 38 = 5 := by kernel_rfl
  have hd : (Value.cells (.slice q n cap)).toList = [.slice q n cap] := rfl
  rw [hd] at hf
  rcases Deep.open_slice ht hf with ⟨e, _⟩ | ⟨a, len, cap', m, k, D, Pl, e, hb, hl, hm, hmm, hdx, hx⟩
  · simp only [List.cons.injEq, and_true] at e
    cases e
    exact ⟨none, [], 0, rfl, (fun c hc => by cases hc), .inl rfl, Nat.zero_le _⟩
  · simp only [List.cons.injEq, and_true] at e
    cases e
    have hmx : n ≤ 9223372036854775807 := Nat.le_trans hl hm
    by_cases h0 : n = 0
    · subst h0
      exact ⟨some a, [], cap, rfl, (fun c hc => by cases hc), .inl rfl, Nat.zero_le _⟩
    · have hnm : n ≤ m := by rw [hmm]; split <;> omega
      obtain ⟨B, o, spot⟩ := a
      have hspot : spot = none := by
        obtain ⟨cs, h1, h2⟩ := hx 0 (by omega)
        obtain ⟨T, rfl, hT⟩ := open_op_cells h2
        rw [ck] at h1
        have h3 := (World.cells?_some h1).2.2 0 (by omega)
        have h4 : W.cell? (((⟨B, o, spot⟩ : Addr).add (0 * 5)).add 0) = some (.int .i64 T.kind) := by simpa [OpOf.cells] using h3
        have := World.cell?_spot h4
        cases spot with
        | none => rfl
        | some s => simp [Addr.add] at this
      subst hspot
      have each : ∀ i, i < n → ∃ T : OpOf, (∀ j, j < 5 → W.cell? ⟨B, o + (i * 5 + j), none⟩ = T.cells[j]?) ∧ T.ok := fun i hi => by
        obtain ⟨cs, h1, h2⟩ := hx i (by omega)
        obtain ⟨T, rfl, hT⟩ := open_op_cells h2
        rw [ck] at h1
        refine ⟨T, fun j hj => ?_, hT⟩
        have h3 := (World.cells?_some h1).2.2 j hj
        rw [add_plain, add_plain, Nat.add_assoc] at h3
        exact h3
      obtain ⟨T1, hx0, _⟩ := each 0 (by omega)
      have hx00 : W.cell? ⟨B, o + (0 * 5 + 0), none⟩ = some (.int .i64 T1.kind) := hx0 0 (by omega)
      have ch : ∀ i, ∃ T : OpOf, i < n → (∀ j, j < 5 → W.cell? ⟨B, o + (i * 5 + j), none⟩ = T.cells[j]?) ∧ T.ok := fun i => by
        by_cases hi : i < n
        · obtain ⟨T, hT⟩ := each i hi; exact ⟨T, fun _ => hT⟩
        · exact ⟨⟨0, 0, 0, 0, false⟩, fun h => absurd h hi⟩
      refine ⟨some ⟨B, o, none⟩, (List.range n).map fun i => Classical.choose (ch i), cap, by simp, fun c hc => ?_, .inr ⟨B, o, rfl, block_lt_of_cell hx00, fun i c hc j u hu => ?_⟩, by simpa using hmx⟩
      · obtain ⟨i, hi, rfl⟩ := List.mem_map.1 hc
        exact (Classical.choose_spec (ch i) (List.mem_range.1 hi)).2
      · have hi : i < n := by
          have := (List.getElem?_eq_some_iff.1 hc).1
          simpa using this
        have hc2 : c = Classical.choose (ch i) := by
          rw [List.getElem?_map, List.getElem?_range hi] at hc
          exact (Option.some.inj hc).symm
        have hj : j < 5 := by
          rcases Nat.lt_or_ge j 5 with hj | hj
          · exact hj
          · rw [List.getElem?_eq_none (show (opsC c).length ≤ j from hj)] at hu; cases hu
        rw [hc2] at hu
        have := (Classical.choose_spec (ch i) hi).1 j hj
        rw [show o + 5 * i + j = o + (i * 5 + j) by omega]
        exact this.trans hu
/-! ### The line of an operation -/
theorem sec_built1 (n : Nat) : Try.prog.built 40 [(0, .int .u8 n)] = some (cellsOf .u8 (mk 128 (oneB n))) := by kernel_rfl
theorem run_sec1 (n : Nat) (w : World) : (Instr.build 40 #[(0, .int .u8 n)]).run Try.prog w = .ok (.agg (cellsOf .u8 (mk 128 (oneB n)))) w := run_build w 40 _ _ (sec_built1 n)
theorem run_line4 (u b : Int) (f : Nat → Nat) (hf : ∀ i, i < 128 → f i < 256) (d : Bool) (w : World) : (Instr.build 42 #[(0, .int .i64 u), (1, .int .i64 b), (2, .agg (cellsOf .u8 (mk 128 f))), (3, .bool d)]).run Try.prog w = .ok (lineV ⟨u, b, mk 128 f, d⟩) w := by
  have e : mk 128 f = mk 128 (natF (mk 128 f)) := (IsSec.mk' (isSec_mk hf)).symm
  rw [e]
  exact run_build w 42 _ _ (by rw [← e]; unfold lineC secC; rw [← e]; kernel_rfl)
end Go.Proofs.Ytlaclakndleonaa

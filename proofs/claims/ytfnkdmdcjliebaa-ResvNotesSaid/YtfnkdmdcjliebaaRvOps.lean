/- The laws' arguments opened: operations, lists of operations, reservations. No condition. -/
import Derived.Test.YtfnkdmdcjliebaaRvBox
import Derived.Lib.SmallJoins
import Derived.ChangeMaps5
namespace Go.Proofs.Ytfnkdmdcjliebaa
open Go.ChangeShapes Go.WideShapes Go.ChangeAt Go.RowKit
set_option linter.unusedVariables false
theorem okI_wf {z : Int} (h : (Lit.int .i64 z).wf = true) : okI z := by have := bounds_i64 h; exact ⟨by omega, by omega⟩
/-- A slice of values of some sort, each of sz cells. -/
theorem open_list_cell {α : Type} {H : Type} {enc : TypeId × Value → H} {W : World} {base fuel : Nat} {spare : Nat → Bool} {held : Bool} {cs : List Value} {x : DataW H × List MemPlace} {S E : TypeId} {sz : Nat} (C : α → List Value) (ok : α → Prop) (c0 : α)
    (hC : ∀ c, (C c).length = sz) (hpos : 0 < sz) (ht : Try.prog.underlying S = some (.slice E)) (ck : Try.prog.cellsOf E = sz)
    (opn : ∀ (fuel : Nat) (cs : List Value) (x : DataW H × List MemPlace) (base : Nat) (spare : Nat → Bool) (held : Bool), DataW.trod enc Try.prog W base spare held fuel E cs = some x → ∃ c, cs = C c ∧ ok c)
    (h : DataW.trod enc Try.prog W base spare held fuel S cs = some x) : ∃ (q : Option Addr) (l : List α) (cap : Nat), cs = [.slice q l.length cap] ∧ (∀ c ∈ l, ok c) ∧ RowsAt sz C W q l ∧ l.length ≤ cap ∧ cap ≤ 9223372036854775807 := by
  rcases Deep.open_slice ht h with ⟨e, _⟩ | ⟨a, n, cap, m, k, D, Pl, e, hb, hl, hm, hmm, hdx, hx⟩
  · exact ⟨none, [], 0, e, (fun c hc => by cases hc), .inl rfl, Nat.le_refl _, Nat.zero_le _⟩
  · have hmx : n ≤ 9223372036854775807 := Nat.le_trans hl hm
    by_cases h0 : n = 0
    · subst h0
      exact ⟨some a, [], cap, e, (fun c hc => by cases hc), .inl rfl, Nat.zero_le _, hm⟩
    · have hnm : n ≤ m := by rw [hmm]; split <;> omega
      obtain ⟨B, o, spot⟩ := a
      have hspot : spot = none := by
        obtain ⟨cs, h1, h2⟩ := hx 0 (by omega)
        obtain ⟨T, rfl, hT⟩ := opn _ _ _ _ _ _ h2
        rw [ck] at h1
        have h3 := (World.cells?_some h1).2.2 0 (by omega)
        obtain ⟨u, hu⟩ : ∃ u, (C T)[0]? = some u := ⟨_, List.getElem?_eq_getElem (by rw [hC]; exact hpos)⟩
        have h4 : W.cell? (((⟨B, o, spot⟩ : Addr).add (0 * sz)).add 0) = some u := by rw [h3, hu]
        have := World.cell?_spot h4
        cases spot with
        | none => rfl
        | some s => simp [Addr.add] at this
      subst hspot
      have each : ∀ i, i < n → ∃ T : α, (∀ j, j < sz → W.cell? ⟨B, o + (i * sz + j), none⟩ = (C T)[j]?) ∧ ok T := fun i hi => by
        obtain ⟨cs, h1, h2⟩ := hx i (by omega)
        obtain ⟨T, rfl, hT⟩ := opn _ _ _ _ _ _ h2
        rw [ck] at h1
        refine ⟨T, fun j hj => ?_, hT⟩
        have h3 := (World.cells?_some h1).2.2 j hj
        rw [add_plain, add_plain, Nat.add_assoc] at h3
        exact h3
      obtain ⟨T1, hx0, _⟩ := each 0 (by omega)
      obtain ⟨u1, hu1⟩ : ∃ u, (C T1)[0]? = some u := ⟨_, List.getElem?_eq_getElem (by rw [hC]; exact hpos)⟩
      have hx00 : W.cell? ⟨B, o + (0 * sz + 0), none⟩ = some u1 := (hx0 0 hpos).trans hu1
      have ch : ∀ i, ∃ T : α, i < n → (∀ j, j < sz → W.cell? ⟨B, o + (i * sz + j), none⟩ = (C T)[j]?) ∧ ok T := fun i => by
        by_cases hi : i < n
        · obtain ⟨T, hT⟩ := each i hi; exact ⟨T, fun _ => hT⟩
        · exact ⟨c0, fun h => absurd h hi⟩
      refine ⟨some ⟨B, o, none⟩, (List.range n).map fun i => Classical.choose (ch i), cap, by simpa using e, fun c hc => ?_, .inr ⟨B, o, rfl, block_lt_of_cell hx00, fun i c hc j u hu => ?_⟩, by simpa using hl, hm⟩
      · obtain ⟨i, hi, rfl⟩ := List.mem_map.1 hc
        exact (Classical.choose_spec (ch i) (List.mem_range.1 hi)).2
      · have hi : i < n := by
          have := (List.getElem?_eq_some_iff.1 hc).1
          simpa using this
        have hc2 : c = Classical.choose (ch i) := by
          rw [List.getElem?_map, List.getElem?_range hi] at hc
          exact (Option.some.inj hc).symm
        have hj : j < sz := by
          rcases Nat.lt_or_ge j sz with hj | hj
          · exact hj
          · rw [List.getElem?_eq_none (by rw [hC]; exact hj)] at hu; cases hu
        rw [hc2] at hu
        have := (Classical.choose_spec (ch i) hi).1 j hj
        rw [show o + sz * i + j = o + (i * sz + j) by rw [Nat.mul_comm sz i]; omega]
        exact this.trans hu
theorem five_cells {cs : List Value} {a b c d f : Value} (hl : cs.length = 5) (h0 : (cs.drop 0).take 1 = [a]) (h1 : (cs.drop 1).take 1 = [b]) (h2 : (cs.drop 2).take 1 = [c]) (h3 : (cs.drop 3).take 1 = [d]) (h4 : (cs.drop 4).take 1 = [f]) : cs = [a, b, c, d, f] := by
  match cs, hl with
  | [x, y, z, u, v], _ => simp_all
theorem six_cells {cs : List Value} {a b c d f g : Value} (hl : cs.length = 6) (h0 : (cs.drop 0).take 1 = [a]) (h1 : (cs.drop 1).take 1 = [b]) (h2 : (cs.drop 2).take 1 = [c]) (h3 : (cs.drop 3).take 1 = [d]) (h4 : (cs.drop 4).take 1 = [f]) (h5 : (cs.drop 5).take 1 = [g]) : cs = [a, b, c, d, f, g] := by
  match cs, hl with
  | [x, y, z, u, v, t], _ => simp_all
theorem two_cells {cs : List Value} {a b : Value} (hl : cs.length = 2) (h0 : (cs.drop 0).take 1 = [a]) (h1 : (cs.drop 1).take 1 = [b]) : cs = [a, b] := by
  match cs, hl with
  | [x, y], _ => simp_all
theorem trod_struct2' {H : Type} {enc : TypeId × Value → H} {P : Program} {w : World} {base : Nat} {spare : Nat → Bool} {held : Bool} {t : TypeId} {f0 f1 : Field} {fuel : Nat} {cs : List Value} {x : DataW H × List MemPlace} (ht : P.underlying t = some (.struct #[f0, f1])) (h : DataW.trod enc P w base spare held fuel t cs = some x) :
    ∃ y0 y1 n, cs.length = P.cellsOf t ∧ DataW.trod enc P w base spare held n f0.type ((cs.drop f0.offset).take (P.cellsOf f0.type)) = some y0 ∧ DataW.trod enc P w base spare held n f1.type ((cs.drop f1.offset).take (P.cellsOf f1.type)) = some y1 := by
  obtain ⟨xs, n, _, rfl, hl, hlen, hf⟩ := DataW.trod_struct ht h
  match xs, hlen with
  | [y0, y1], _ => exact ⟨y0, y1, n, hl, by simpa using hf 0 f0 rfl, by simpa using hf 1 f1 rfl⟩
theorem trod_struct5' {H : Type} {enc : TypeId × Value → H} {P : Program} {w : World} {base : Nat} {spare : Nat → Bool} {held : Bool} {t : TypeId} {f0 f1 f2 f3 f4 : Field} {fuel : Nat} {cs : List Value} {x : DataW H × List MemPlace} (ht : P.underlying t = some (.struct #[f0, f1, f2, f3, f4])) (h : DataW.trod enc P w base spare held fuel t cs = some x) :
    ∃ y0 y1 y2 y3 y4 n, cs.length = P.cellsOf t ∧ DataW.trod enc P w base spare held n f0.type ((cs.drop f0.offset).take (P.cellsOf f0.type)) = some y0 ∧ DataW.trod enc P w base spare held n f1.type ((cs.drop f1.offset).take (P.cellsOf f1.type)) = some y1 ∧ DataW.trod enc P w base spare held n f2.type ((cs.drop f2.offset).take (P.cellsOf f2.type)) = some y2 ∧ DataW.trod enc P w base spare held n f3.type ((cs.drop f3.offset).take (P.cellsOf f3.type)) = some y3 ∧ DataW.trod enc P w base spare held n f4.type ((cs.drop f4.offset).take (P.cellsOf f4.type)) = some y4 := by
  obtain ⟨xs, n, _, rfl, hl, hlen, hf⟩ := DataW.trod_struct ht h
  match xs, hlen with
  | [y0, y1, y2, y3, y4], _ => exact ⟨y0, y1, y2, y3, y4, n, hl, by simpa using hf 0 f0 rfl, by simpa using hf 1 f1 rfl, by simpa using hf 2 f2 rfl, by simpa using hf 3 f3 rfl, by simpa using hf 4 f4 rfl⟩
theorem trod_struct6' {H : Type} {enc : TypeId × Value → H} {P : Program} {w : World} {base : Nat} {spare : Nat → Bool} {held : Bool} {t : TypeId} {f0 f1 f2 f3 f4 f5 : Field} {fuel : Nat} {cs : List Value} {x : DataW H × List MemPlace} (ht : P.underlying t = some (.struct #[f0, f1, f2, f3, f4, f5])) (h : DataW.trod enc P w base spare held fuel t cs = some x) :
    ∃ y0 y1 y2 y3 y4 y5 n, cs.length = P.cellsOf t ∧ DataW.trod enc P w base spare held n f0.type ((cs.drop f0.offset).take (P.cellsOf f0.type)) = some y0 ∧ DataW.trod enc P w base spare held n f1.type ((cs.drop f1.offset).take (P.cellsOf f1.type)) = some y1 ∧ DataW.trod enc P w base spare held n f2.type ((cs.drop f2.offset).take (P.cellsOf f2.type)) = some y2 ∧ DataW.trod enc P w base spare held n f3.type ((cs.drop f3.offset).take (P.cellsOf f3.type)) = some y3 ∧ DataW.trod enc P w base spare held n f4.type ((cs.drop f4.offset).take (P.cellsOf f4.type)) = some y4 ∧ DataW.trod enc P w base spare held n f5.type ((cs.drop f5.offset).take (P.cellsOf f5.type)) = some y5 := by
  obtain ⟨xs, n, _, rfl, hl, hlen, hf⟩ := DataW.trod_struct ht h
  match xs, hlen with
  | [y0, y1, y2, y3, y4, y5], _ => exact ⟨y0, y1, y2, y3, y4, y5, n, hl, by simpa using hf 0 f0 rfl, by simpa using hf 1 f1 rfl, by simpa using hf 2 f2 rfl, by simpa using hf 3 f3 rfl, by simpa using hf 4 f4 rfl, by simpa using hf 5 f5 rfl⟩
set_option maxRecDepth 100000 in
theorem open_op_cells {H : Type} {enc : TypeId × Value → H} {W : World} (fuel : Nat) (cs : List Value) (x : DataW H × List MemPlace) (base : Nat) (spare : Nat → Bool) (held : Bool) (h : DataW.trod enc Try.prog W base spare held fuel roT cs = some x) : ∃ c : ROp, cs = ropC c ∧ c.ok := by
  obtain ⟨y0, y1, y2, y3, y4, y5, n, hl, t0, t1, t2, t3, t4, t5⟩ := trod_struct6' Try.underlying26 h
  have hsz : Try.prog.cellsOf roT = 6 := by kernel_rfl
  have k1 : Try.prog.cellsOf 4 = 1 := by kernel_rfl
  have k2 : Try.prog.cellsOf 3 = 1 := by kernel_rfl
  rw [hsz] at hl
  simp only [k1, k2] at t0 t1 t2 t3 t4 t5
  obtain ⟨z0, e0, _, w0⟩ := DataW.trod_int Try.underlying3 t0
  obtain ⟨z1, e1, _, w1⟩ := DataW.trod_int Try.underlying3 t1
  obtain ⟨z2, e2, _, w2⟩ := DataW.trod_int Try.underlying3 t2
  obtain ⟨z3, e3, _, w3⟩ := DataW.trod_int Try.underlying3 t3
  obtain ⟨z4, e4, _, w4⟩ := DataW.trod_int Try.underlying3 t4
  obtain ⟨z5, e5, _⟩ := DataW.trod_bool Try.underlying4 t5
  exact ⟨⟨z0, z1, z2, z3, z4, z5⟩, six_cells hl e0 e1 e2 e3 e4 e5, ⟨okI_wf w0, okI_wf w1, okI_wf w2, okI_wf w3, okI_wf w4⟩⟩
set_option maxRecDepth 100000 in
theorem open_reg_cells {H : Type} {enc : TypeId × Value → H} {W : World} (fuel : Nat) (cs : List Value) (x : DataW H × List MemPlace) (base : Nat) (spare : Nat → Bool) (held : Bool) (h : DataW.trod enc Try.prog W base spare held fuel rgT cs = some x) : ∃ c : Int × Int, cs = regC c ∧ (okI c.1 ∧ okI c.2) := by
  obtain ⟨y0, y1, n, hl, t0, t1⟩ := trod_struct2' Try.underlying39 h
  have hsz : Try.prog.cellsOf rgT = 2 := by kernel_rfl
  have k2 : Try.prog.cellsOf 3 = 1 := by kernel_rfl
  rw [hsz] at hl
  simp only [k2] at t0 t1
  obtain ⟨z0, e0, _, w0⟩ := DataW.trod_int Try.underlying3 t0
  obtain ⟨z1, e1, _, w1⟩ := DataW.trod_int Try.underlying3 t1
  exact ⟨(z0, z1), two_cells hl e0 e1, okI_wf w0, okI_wf w1⟩
set_option maxRecDepth 100000 in
theorem open_resv_cells {H : Type} {enc : TypeId × Value → H} {W : World} (fuel : Nat) (cs : List Value) (x : DataW H × List MemPlace) (base : Nat) (spare : Nat → Bool) (held : Bool) (h : DataW.trod enc Try.prog W base spare held fuel rvT cs = some x) :
    ∃ (q : Option Addr) (r : ResvOf) (c : Nat), cs = (resvA q r.regs.length c r).toList ∧ r.ok ∧ RegsAt W q r.regs ∧ r.regs.length ≤ c ∧ c ≤ 9223372036854775807 := by
  obtain ⟨y0, y1, y2, y3, y4, n, hl, t0, t1, t2, t3, t4⟩ := trod_struct5' Try.underlying24 h
  have hsz : Try.prog.cellsOf rvT = 5 := by kernel_rfl
  have k0 : Try.prog.cellsOf 22 = 1 := by kernel_rfl
  have k1 : Try.prog.cellsOf 4 = 1 := by kernel_rfl
  have k2 : Try.prog.cellsOf 3 = 1 := by kernel_rfl
  rw [hsz] at hl
  simp only [k0, k1, k2] at t0 t1 t2 t3 t4
  obtain ⟨q, l, c, e0, w0, a0, b0, d0⟩ := open_list_cell (sz := 2) regC (fun c => okI c.1 ∧ okI c.2) (0, 0) (fun _ => rfl) (by decide) Try.underlying22 (by kernel_rfl) open_reg_cells t0
  obtain ⟨z1, e1, _, w1⟩ := DataW.trod_int Try.underlying3 t1
  obtain ⟨z2, e2, _, w2⟩ := DataW.trod_int Try.underlying3 t2
  obtain ⟨z3, e3, _⟩ := DataW.trod_bool Try.underlying4 t3
  obtain ⟨z4, e4, _, w4⟩ := DataW.trod_int Try.underlying3 t4
  exact ⟨q, ⟨l, z1, z2, z3, z4⟩, c, five_cells hl e0 e1 e2 e3 e4, ⟨fun p hp => w0 p hp, okI_wf w1, okI_wf w2, okI_wf w4⟩, a0, b0, d0⟩
/-! ### As arguments -/
set_option maxRecDepth 100000 in
theorem open_rop {H : Type} {enc : TypeId × Value → H} {W : World} {r : Reach} {b0 base : Nat} {spare : Nat → Bool} {held : Bool} {v : Value} {d : DataW H} {p : List MemPlace} (hv : Value.okWide Try.prog W r b0 roT v) (h : DataW.Trod enc Try.prog W base spare held roT v d p) : ∃ c : ROp, v = .agg (ropA c) ∧ c.ok := by
  obtain ⟨cs, rfl, hsz⟩ := okWide_struct (t := roT) Try.underlying26 hv
  obtain ⟨fuel, hf⟩ := h
  have hdd : (Value.cells (.agg cs)).toList = cs.toList := rfl
  rw [hdd] at hf
  obtain ⟨c, hc, hok⟩ := open_op_cells _ _ _ _ _ _ hf
  exact ⟨c, by rw [show ropA c = (ropC c).toArray from rfl, ← hc], hok⟩
set_option maxRecDepth 100000 in
theorem open_rops {H : Type} {enc : TypeId × Value → H} {W : World} {r : Reach} {b0 base : Nat} {spare : Nat → Bool} {held : Bool} {v : Value} {d : DataW H} {p : List MemPlace} (hv : Value.okWide Try.prog W r b0 41 v) (h : DataW.Trod enc Try.prog W base spare held 41 v d p) :
    ∃ (q : Option Addr) (l : List ROp) (cap : Nat), v = .slice q l.length cap ∧ (∀ c ∈ l, c.ok) ∧ OpsAt W q l ∧ l.length ≤ maxLen := by
  obtain ⟨q, n, cap, rfl⟩ := okWide_slice Try.underlying41 hv
  obtain ⟨fuel, hf⟩ := h
  have hd : (Value.cells (.slice q n cap)).toList = [.slice q n cap] := rfl
  rw [hd] at hf
  obtain ⟨q', l, cap', e, h1, h2, h3, h4⟩ := open_list_cell (sz := 6) ropC ROp.ok ⟨0, 0, 0, 0, 0, false⟩ (fun _ => rfl) (by decide) Try.underlying41 (by kernel_rfl) open_op_cells hf
  simp only [List.cons.injEq, and_true] at e
  exact ⟨q', l, cap', e, h1, h2, by simpa [maxLen] using Nat.le_trans h3 h4⟩
set_option maxRecDepth 100000 in
theorem open_resv {H : Type} {enc : TypeId × Value → H} {W : World} {r : Reach} {b0 base : Nat} {spare : Nat → Bool} {held : Bool} {v : Value} {d : DataW H} {p : List MemPlace} (hv : Value.okWide Try.prog W r b0 rvT v) (h : DataW.Trod enc Try.prog W base spare held rvT v d p) :
    ∃ (q : Option Addr) (c : Nat) (r : ResvOf), v = .agg (resvA q r.regs.length c r) ∧ r.ok ∧ RegsAt W q r.regs ∧ r.regs.length ≤ c ∧ c ≤ maxLen := by
  obtain ⟨cs, rfl, hsz⟩ := okWide_struct (t := rvT) Try.underlying24 hv
  obtain ⟨fuel, hf⟩ := h
  have hdd : (Value.cells (.agg cs)).toList = cs.toList := rfl
  rw [hdd] at hf
  obtain ⟨q, r, c, hc, h1, h2, h3, h4⟩ := open_resv_cells _ _ _ _ _ _ hf
  exact ⟨q, c, r, by rw [← Array.toArray_toList (xs := resvA q r.regs.length c r), ← hc], h1, h2, h3, by simpa [maxLen] using h4⟩
end Go.Proofs.Ytfnkdmdcjliebaa

/- Strings, and structs of a slice of bytes, a string and ints, that come in as arguments, opened. No condition. -/
import Derived.Test.YtfjbehobpkmjbaaDoorOpenP
namespace Go.Proofs.YtfjbehobpkmjbaaDoor
open Go.ChangeShapes Go.WideShapes Go.ChangeAt Go.RowKit
set_option linter.unusedVariables false

theorem str_size {s : ByteArray} {ts : List TypeId} {H : Type} {ds : List (DataW H)} (hz : (DataW.weightsEach Tryd.prog ts ds).all (· ≤ reachBytes) = true) {j : Nat} {t : TypeId} (ht : ts[j]? = some t) (hd : ds[j]? = some (.lit (.string s.data.toList))) : s.size ≤ 140737488351232 := by
  have h := sized_string hz ht hd
  have hsl : s.data.toList.length = s.size := by rw [Array.length_toList]; rfl
  rw [hsl] at h
  simpa [reachBytes] using h
theorem open_str {H : Type} {enc : TypeId × Value → H} {W : World} {r : Reach} {b0 base : Nat} {spare : Nat → Bool} {held : Bool} {v : Value} {d : DataW H} {p : List MemPlace} (hv : Value.okWide Tryd.prog W r b0 9 v) (h : DataW.Trod enc Tryd.prog W base spare held 9 v d p)
    {ts : List TypeId} {ds : List (DataW H)} (hz : (DataW.weightsEach Tryd.prog ts ds).all (· ≤ reachBytes) = true) {j : Nat} (ht : ts[j]? = some 9) (hd : ds[j]? = some d) : ∃ s : ByteArray, v = .string s ∧ s.size ≤ 140737488351232 := by
  obtain ⟨s, rfl, rfl, rfl, _⟩ := ChangeMaps.open_string Tryd.underlying9 hv h
  exact ⟨s, rfl, str_size hz ht hd⟩
theorem open_derived {H : Type} {enc : TypeId × Value → H} {W : World} {r : Reach} {b0 base : Nat} {spare : Nat → Bool} {held : Bool} {v : Value} {d : DataW H} {p : List MemPlace} (hv : Value.okWide Tryd.prog W r b0 48 v) (h : DataW.Trod enc Tryd.prog W base spare held 48 v d p)
    {ts : List TypeId} {ds : List (DataW H)} (hz : (DataW.weightsEach Tryd.prog ts ds).all (· ≤ reachBytes) = true) {j : Nat} (ht : ts[j]? = some 48) (hd : ds[j]? = some d) :
    ∃ (q0 : Option Addr) (n0 c0 : Nat) (g0 : Nat → Nat) (s : ByteArray) (z0 z1 : Int), v = .agg #[.slice q0 n0 c0, .string s, .int .i64 z0, .int .i64 z1] ∧
      (∀ i, i < n0 → g0 i < 256) ∧ n0 ≤ c0 ∧ n0 ≤ 140737488351232 ∧ s.size ≤ 140737488351232 ∧ BytesAt W q0 n0 g0 := by
  obtain ⟨cs, rfl, hsz⟩ := okWide_struct Tryd.underlying48 hv
  rw [show Tryd.prog.cellsOf 48 = 4 by kernel_rfl] at hsz
  obtain ⟨fuel, hf⟩ := h
  obtain ⟨y0, y1, y2, y3, n, hx, hl, t0, t1, t2, t3⟩ := Joins.trod_struct4 Tryd.underlying48 hf
  have hdd : (Value.cells (.agg cs)).toList = cs.toList := rfl
  rw [hdd] at t0 t1 t2 t3
  have k1 : Tryd.prog.cellsOf 22 = 1 := by kernel_rfl
  have k2 : Tryd.prog.cellsOf 3 = 1 := by kernel_rfl
  have k3 : Tryd.prog.cellsOf 9 = 1 := by kernel_rfl
  simp only [k1, k2, k3] at t0 t1 t2 t3
  obtain ⟨q0, n0, c0, g0, e0, r0, b0, x0, l0⟩ := open_cell t0
  obtain ⟨s, e1, x1, _⟩ := DataW.trod_string Tryd.underlying9 t1
  obtain ⟨z0, e2, _, _⟩ := DataW.trod_int Tryd.underlying3 t2
  obtain ⟨z1, e3, _, _⟩ := DataW.trod_int Tryd.underlying3 t3
  have hw := weights_in hz ht hd
  simp only [Prod.mk.injEq] at hx
  rw [hx.1] at hw
  have hw2 : (DataW.weightsEach Tryd.prog [22, 9, 3, 3] [y0.1, y1.1, y2.1, y3.1]).all (· ≤ reachBytes) = true := by
    simpa [DataW.weights, Tryd.underlying48] using hw
  have hcs : cs = #[.slice q0 n0 c0, .string s, .int .i64 z0, .int .i64 z1] := by
    have := four_cells (cs := cs.toList) (by simpa using hsz) e0 e1 e2 e3
    exact Array.ext' this
  exact ⟨q0, n0, c0, g0, s, z0, z1, by rw [hcs], b0, l0, open_size r0 hw2 (j := 0) rfl rfl, str_size hw2 (j := 1) rfl (by rw [x1]; rfl), x0⟩
end Go.Proofs.YtfjbehobpkmjbaaDoor

/- How long a slice of bytes that comes in is at the most: by the form's own reach. No condition. -/
import Derived.Test.YtfjbehobpkmjbaaMake
import Derived.SizedLaws
namespace Go.Proofs.Ytfjbehobpkmjbaa
open Go.ChangeShapes Go.WideShapes Go.ChangeAt Go.RowKit

theorem open_size {H : Type} {enc : TypeId × Value → H} {W : World} {base : Nat} {spare : Nat → Bool} {held : Bool} {q : Option Addr} {n cap : Nat} {d : DataW H} {p : List MemPlace} (h : DataW.Trod enc Try.prog W base spare held 22 (.slice q n cap) d p)
    {ts : List TypeId} {ds : List (DataW H)} (hz : (DataW.weightsEach Try.prog ts ds).all (· ≤ reachBytes) = true) {j : Nat} (ht : ts[j]? = some 22) (hd : ds[j]? = some d) : n ≤ 140737488351232 := by
  have ck : Try.prog.cellsOf 5 = 1 := by kernel_rfl
  have cb : Try.prog.bytesOf 5 = 1 := by kernel_rfl
  obtain ⟨fuel, hf⟩ := h
  have hc : (Value.cells (.slice q n cap)).toList = [.slice q n cap] := rfl
  rw [hc] at hf
  rcases Deep.open_slice1 bytesUnder ck hf with ⟨h0, _⟩ | ⟨a, len, cap', m, k, V, D, Pl, h0, _, hl, _, hm, hx, _⟩
  · simp only [List.cons.injEq, Value.slice.injEq, and_true] at h0
    omega
  · simp only [List.cons.injEq, Value.slice.injEq, and_true] at h0
    obtain ⟨_, rfl, rfl⟩ := h0
    simp only [Prod.mk.injEq] at hx
    rw [hx.1] at hd
    have := sized_slice hz ht hd bytesUnder
    rw [cb, Nat.mul_one, List.length_map, List.length_range] at this
    exact Nat.le_trans (Nat.le_add_right _ _) this
end Go.Proofs.Ytfjbehobpkmjbaa

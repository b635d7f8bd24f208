/- Bytes behind a pointer; a slice of bytes that comes in as an argument, opened. No condition. -/
import Derived.Test.YtfjbehobpkmjbaaByteE
import Derived.Test.YtfjbehobpkmjbaaPart
import Derived.Test.YtfjbehobpkmjbaaOpen
import Derived.Deep.Slices
namespace Go.Proofs.Ytfjbehobpkmjbaa
open Go.ChangeShapes Go.WideShapes Go.ChangeAt Go.RowKit

theorem Cells.below {w w' : World} {B o n M : Nat} {f : Nat → Nat} (h : Cells w B o n f) (hb : Below M w w') (hB : B < M) : Cells w' B o n f := fun j hj => by rw [hb.cell (p := ⟨B, o + j, none⟩) hB]; exact h j hj
/-- What a cell holds, as a byte. -/
def byteAt (W : World) (B o : Nat) : Nat := match W.cell? ⟨B, o, none⟩ with | some (.int _ a) => a.toNat | _ => 0
theorem byteAt_is {W : World} {B o a : Nat} (h : W.cell? ⟨B, o, none⟩ = some (.int .u8 (a : Int))) : byteAt W B o = a := by
  unfold byteAt; rw [h]; rfl

/-- n bytes lie behind a pointer. -/
def BytesAt (w : World) (p : Option Addr) (n : Nat) (g : Nat → Nat) : Prop := n = 0 ∨ ∃ B o, p = some ⟨B, o, none⟩ ∧ B < w.heap.size ∧ Cells w B o n g
theorem BytesAt.below {w w' : World} {p : Option Addr} {n : Nat} {g : Nat → Nat} (h : BytesAt w p n g) (hb : Below w.heap.size w w') : BytesAt w' p n g := by
  rcases h with h | ⟨B, o, hp, hB, hc⟩
  · exact .inl h
  · exact .inr ⟨B, o, hp, Nat.lt_of_lt_of_le hB hb.size, hc.below hb hB⟩
theorem open_byteslice {H : Type} {enc : TypeId × Value → H} {W : World} {r : Reach} {b0 base : Nat} {spare : Nat → Bool} {held : Bool} {v : Value} {d : DataW H} {p : List MemPlace}
    (hv : Value.okWide Try.prog W r b0 22 v) (h : DataW.Trod enc Try.prog W base spare held 22 v d p) :
    ∃ (q : Option Addr) (n cap : Nat) (g : Nat → Nat), v = .slice q n cap ∧ (∀ i, i < n → g i < 256) ∧ BytesAt W q n g ∧ n ≤ cap ∧ cap ≤ maxLen := by
  have ht : Try.prog.underlying 22 = some (.slice 5) := Try.underlying22
  have ck : Try.prog.cellsOf 5 = 1 := by kernel_rfl
  obtain ⟨q, n, cap, rfl⟩ := okWide_slice ht hv
  obtain ⟨fuel, hf⟩ := h
  have hd : (Value.cells (.slice q n cap)).toList = [.slice q n cap] := rfl
  rw [hd] at hf
  rcases Deep.open_slice1 ht ck hf with ⟨h0, _⟩ | ⟨a, len, cap', m, k, V, D, Pl, h0, hb, hl, hm, hmm, _, hx⟩
  · simp only [List.cons.injEq, Value.slice.injEq, and_true] at h0
    obtain ⟨rfl, rfl, rfl⟩ := h0
    exact ⟨none, 0, 0, zeroK, rfl, fun i hi => absurd hi (Nat.not_lt_zero _), .inl rfl, Nat.le_refl _, Nat.zero_le _⟩
  · simp only [List.cons.injEq, Value.slice.injEq, and_true] at h0
    obtain ⟨rfl, rfl, rfl⟩ := h0
    by_cases h0 : n = 0
    · exact ⟨some a, n, cap, zeroK, rfl, fun i hi => absurd hi (by omega), .inl h0, hl, hm⟩
    · have hnm : n ≤ m := by rw [hmm]; split <;> omega
      have each : ∀ i, i < n → ∃ x : Nat, x < 256 ∧ W.cell? (a.add i) = some (.int .u8 x) := fun i hi => by
        obtain ⟨h1, h2⟩ := hx i (by omega)
        obtain ⟨x, hx1, _, hw⟩ := DataW.trod_int Try.underlying5 h2
        have hb := bounds_u8 hw
        simp only [List.cons.injEq, and_true] at hx1
        refine ⟨x.toNat, by omega, ?_⟩
        rw [show ((x.toNat : Nat) : Int) = x by omega, ← hx1]; exact h1
      obtain ⟨B, o, spot⟩ := a
      obtain ⟨x0, _, hx0⟩ := each 0 (by omega)
      have hspot : spot = none := by simpa [Addr.add] using World.cell?_spot hx0
      subst hspot
      simp only [add_plain] at each hx0
      refine ⟨_, n, cap, fun i => byteAt W B (o + i), rfl, fun i hi => ?_, .inr ⟨B, o, rfl, block_lt_of_cell hx0, fun i hi => ?_⟩, hl, hm⟩
      · obtain ⟨x, hx1, hx2⟩ := each i hi
        show byteAt W B (o + i) < 256
        rw [byteAt_is hx2]; exact hx1
      · obtain ⟨x, hx1, hx2⟩ := each i hi
        show W.cell? ⟨B, o + i, none⟩ = some (.int .u8 (byteAt W B (o + i) : Nat))
        rw [byteAt_is hx2]; exact hx2
end Go.Proofs.Ytfjbehobpkmjbaa

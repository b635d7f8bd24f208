/- Slices of keys, and of bytes, that come in as arguments, opened: functions from places to bytes. No condition. -/
import Derived.Test.YtilfjmpoiiepkaaEncC
import Derived.Test.YtilfjmpoiiepkaaOpen
import Derived.Deep.Slices
namespace Go.Proofs.Ytilfjmpoiiepkaa
open Go.ChangeShapes Go.WideShapes Go.ChangeAt Go.RowKit

theorem bytes_of_row {H : Type} {enc : TypeId × Value → H} {P : Program} {W : World} {base fuel : Nat} {spare : Nat → Bool} {held : Bool} {t e : TypeId} {n : Nat} {cs : List Value} {x : DataW H × List MemPlace}
    (ht : P.underlying t = some (.array n e)) (he : P.underlying e = some (.int .u8)) (hc : P.cellsOf e = 1) (h : DataW.trod enc P W base spare held fuel t cs = some x) : ∀ i, i < n → ∃ a : Nat, a < 256 ∧ cs[i]? = some (.int .u8 a) := by
  obtain ⟨xs, m, rfl, hx, hlen, hxn, hel⟩ := DataW.trod_array ht h
  intro i hi
  have hi2 := hel i hi
  rw [hc, Nat.mul_one] at hi2
  have hlt : i < xs.length := by omega
  rw [List.getElem?_eq_getElem hlt] at hi2
  obtain ⟨a, ha, _, hw⟩ := DataW.trod_int he hi2
  have hb := bounds_u8 hw
  refine ⟨a.toNat, by omega, ?_⟩
  rw [show ((a.toNat : Nat) : Int) = a by omega]
  have h0 : (List.take 1 (List.drop i cs))[0]? = some (.int .u8 a) := by rw [ha]; rfl
  rw [List.getElem?_take_of_lt (by omega), List.getElem?_drop] at h0
  simpa using h0
/-- What a cell holds, as a byte. -/
def byteAt (W : World) (B o : Nat) : Nat := match W.cell? ⟨B, o, none⟩ with | some (.int _ a) => a.toNat | _ => 0
theorem byteAt_is {W : World} {B o a : Nat} (h : W.cell? ⟨B, o, none⟩ = some (.int .u8 (a : Int))) : byteAt W B o = a := by
  unfold byteAt; rw [h]; rfl

theorem open_keys {H : Type} {enc : TypeId × Value → H} {W : World} {r : Reach} {b0 base : Nat} {spare : Nat → Bool} {held : Bool} {v : Value} {d : DataW H} {p : List MemPlace}
    (hv : Value.okWide Try.prog W r b0 31 v) (h : DataW.Trod enc Try.prog W base spare held 31 v d p) :
    ∃ (q : Option Addr) (n cap : Nat) (R : Nat → Nat → Nat), v = .slice q n cap ∧ (∀ i, i < n → IsKey (R i)) ∧ KeysAt W q n R := by
  have ht : Try.prog.underlying 31 = some (.slice 23) := Try.underlying31
  have ck : Try.prog.cellsOf 23 = 16 := by kernel_rfl
  obtain ⟨q, n, cap, rfl⟩ := okWide_slice ht hv
  obtain ⟨fuel, hf⟩ := h
  have hd : (Value.cells (.slice q n cap)).toList = [.slice q n cap] := rfl
  rw [hd] at hf
  rcases Deep.open_slice ht hf with ⟨h0, _⟩ | ⟨a, len, cap', m, k, D, Pl, h0, hb, hl, hm, hmm, _, hx⟩
  · simp only [List.cons.injEq, Value.slice.injEq, and_true] at h0
    obtain ⟨rfl, rfl, rfl⟩ := h0
    exact ⟨none, 0, 0, fun _ => zeroK, rfl, fun i hi => absurd hi (Nat.not_lt_zero _), .inl rfl⟩
  · simp only [List.cons.injEq, Value.slice.injEq, and_true] at h0
    obtain ⟨rfl, rfl, rfl⟩ := h0
    rw [ck] at hx
    by_cases h0 : n = 0
    · exact ⟨some a, n, cap, fun _ => zeroK, rfl, fun i hi => absurd hi (by omega), .inl h0⟩
    · have hnm : n ≤ m := by rw [hmm]; split <;> omega
      have each : ∀ i, i < n → ∀ j, j < 16 → ∃ x : Nat, x < 256 ∧ W.cell? (a.add (i * 16 + j)) = some (.int .u8 x) := fun i hi j hj => by
        obtain ⟨cs', h1, h2⟩ := hx i (by omega)
        obtain ⟨_, hlen, hc⟩ := World.cells?_some h1
        obtain ⟨x, hx1, hx2⟩ := bytes_of_row keyUnder Try.underlying5 (by kernel_rfl) h2 j hj
        refine ⟨x, hx1, ?_⟩
        have := hc j hj
        rw [Deep.add_add] at this
        rw [this, hx2]
      obtain ⟨B, o, spot⟩ := a
      obtain ⟨x0, _, hx0⟩ := each 0 (by omega) 0 (by omega)
      have hspot : spot = none := by simpa [Addr.add] using World.cell?_spot hx0
      subst hspot
      simp only [add_plain] at each hx0
      refine ⟨_, n, cap, fun i j => byteAt W B (o + (i * 16 + j)), rfl, fun i hi j hj => ?_, .inr ⟨B, o, rfl, block_lt_of_cell hx0, fun i hi j hj => ?_⟩⟩
      · obtain ⟨x, hx1, hx2⟩ := each i hi j hj
        show byteAt W B (o + (i * 16 + j)) < 256
        rw [byteAt_is hx2]; exact hx1
      · obtain ⟨x, hx1, hx2⟩ := each i hi j hj
        show W.cell? ⟨B, o + i * 16 + j, none⟩ = some (.int .u8 (byteAt W B (o + (i * 16 + j)) : Nat))
        rw [Nat.add_assoc, byteAt_is hx2]; exact hx2

/-- n bytes lie behind a pointer. -/
def BytesAt (w : World) (p : Option Addr) (n : Nat) (g : Nat → Nat) : Prop := n = 0 ∨ ∃ B o, p = some ⟨B, o, none⟩ ∧ B < w.heap.size ∧ Cells w B o n g
theorem BytesAt.below {w w' : World} {p : Option Addr} {n : Nat} {g : Nat → Nat} (h : BytesAt w p n g) (hb : Below w.heap.size w w') : BytesAt w' p n g := by
  rcases h with h | ⟨B, o, hp, hB, hc⟩
  · exact .inl h
  · exact .inr ⟨B, o, hp, Nat.lt_of_lt_of_le hB hb.size, hc.below hb hB⟩
theorem open_byteslice {H : Type} {enc : TypeId × Value → H} {W : World} {r : Reach} {b0 base : Nat} {spare : Nat → Bool} {held : Bool} {v : Value} {d : DataW H} {p : List MemPlace}
    (hv : Value.okWide Try.prog W r b0 29 v) (h : DataW.Trod enc Try.prog W base spare held 29 v d p) :
    ∃ (q : Option Addr) (n cap : Nat) (g : Nat → Nat), v = .slice q n cap ∧ (∀ i, i < n → g i < 256) ∧ BytesAt W q n g ∧ n ≤ cap ∧ cap ≤ maxLen := by
  have ht : Try.prog.underlying 29 = some (.slice 5) := Try.underlying29
  have ck : Try.prog.cellsOf 5 = 1 := by kernel_rfl
  obtain ⟨q, n, cap, rfl⟩ := okWide_slice ht hv
  obtain ⟨fuel, hf⟩ := h
  have hd : (Value.cells (.slice q n cap)).toList = [.slice q n cap] := rfl
  rw [hd] at hf
  rcases Deep.open_slice1 ht ck hf with ⟨h0, _⟩ | ⟨a, len, cap', m, k, V, D, Pl, h0, hb, hl, hm, hmm, _, hx⟩
  · simp only [List.cons.injEq, Value.slice.injEq, and_true] at h0
    obtain ⟨rfl, rfl, rfl⟩ := h0
    exact ⟨none, 0, 0, zeroK, rfl, fun i hi => absurd hi (Nat.not_lt_zero _), .inl rfl, Nat.le_refl _, Nat.zero_le _⟩
  · simp only [List.cons.injEq, Value.slice.injEq, and_true] at h0
    obtain ⟨rfl, rfl, rfl⟩ := h0
    by_cases h0 : n = 0
    · exact ⟨some a, n, cap, zeroK, rfl, fun i hi => absurd hi (by omega), .inl h0, hl, hm⟩
    · have hnm : n ≤ m := by rw [hmm]; split <;> omega
      have each : ∀ i, i < n → ∃ x : Nat, x < 256 ∧ W.cell? (a.add i) = some (.int .u8 x) := fun i hi => by
        obtain ⟨h1, h2⟩ := hx i (by omega)
        obtain ⟨x, hx1, _, hw⟩ := DataW.trod_int Try.underlying5 h2
        have hb := bounds_u8 hw
        simp only [List.cons.injEq, and_true] at hx1
        refine ⟨x.toNat, by omega, ?_⟩
        rw [show ((x.toNat : Nat) : Int) = x by omega, ← hx1]; exact h1
      obtain ⟨B, o, spot⟩ := a
      obtain ⟨x0, _, hx0⟩ := each 0 (by omega)
      have hspot : spot = none := by simpa [Addr.add] using World.cell?_spot hx0
      subst hspot
      simp only [add_plain] at each hx0
      refine ⟨_, n, cap, fun i => byteAt W B (o + i), rfl, fun i hi => ?_, .inr ⟨B, o, rfl, block_lt_of_cell hx0, fun i hi => ?_⟩, hl, hm⟩
      · obtain ⟨x, hx1, hx2⟩ := each i hi
        show byteAt W B (o + i) < 256
        rw [byteAt_is hx2]; exact hx1
      · obtain ⟨x, hx1, hx2⟩ := each i hi
        show W.cell? ⟨B, o + i, none⟩ = some (.int .u8 (byteAt W B (o + i) : Nat))
        rw [byteAt_is hx2]; exact hx2
end Go.Proofs.Ytilfjmpoiiepkaa

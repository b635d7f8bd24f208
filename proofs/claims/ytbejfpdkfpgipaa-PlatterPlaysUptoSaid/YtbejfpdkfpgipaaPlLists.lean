/- An argument that is a list of texts: what it is read from. No condition. -/
import Derived.Test.YtbejfpdkfpgipaaPlArgs
namespace Go.Proofs.Ytbejfpdkfpgipaa
open Go.ChangeShapes Go.WideShapes Go.ChangeAt Go.RowKit
set_option linter.unusedVariables false
/-- A list of texts in memory: where each lies, how long it is, what it holds. -/
structure TextOf where
  p : Option Addr
  n : Nat
  c : Nat
  g : Nat → Nat
def ListsAt (W : World) (q : Option Addr) (n : Nat) (T : Nat → TextOf) : Prop := n = 0 ∨ ∃ B o, q = some ⟨B, o, none⟩ ∧ B < W.heap.size ∧ ∀ i, i < n → W.cell? ⟨B, o + i, none⟩ = some (.slice (T i).p (T i).n (T i).c) ∧ BytesAt W (T i).p (T i).n (T i).g
theorem ListsAt.below {W W' : World} {q : Option Addr} {n : Nat} {T : Nat → TextOf} (h : ListsAt W q n T) (hb : Below W.heap.size W W') : ListsAt W' q n T := by
  rcases h with h | ⟨B, o, rfl, hB, hc⟩
  · exact .inl h
  · exact .inr ⟨B, o, rfl, Nat.lt_of_lt_of_le hB hb.size, fun i hi => ⟨(hb.cell (p := ⟨B, o + i, none⟩) hB).trans (hc i hi).1, (hc i hi).2.below hb⟩⟩
set_option maxRecDepth 100000 in
theorem open_lists {H : Type} {enc : TypeId × Value → H} {W : World} {r : Reach} {b0 base : Nat} {spare : Nat → Bool} {held : Bool} {v : Value} {d : DataW H} {p : List MemPlace}
    (hv : Value.okWide Try.prog W r b0 69 v) (h : DataW.Trod enc Try.prog W base spare held 69 v d p) : ∃ (q : Option Addr) (n : Nat) (cap : Nat) (T : Nat → TextOf), v = .slice q n cap ∧ ListsAt W q n T ∧ n ≤ 9223372036854775807 := by
  obtain ⟨q, n, cap, rfl⟩ := okWide_slice Try.underlying69 hv
  obtain ⟨fuel, hf⟩ := h
  have ht : Try.prog.underlying 69 = some (.slice 34) := Try.underlying69
  have ck : Try.prog.cellsOf 34 = 1 := by kernel_rfl
  have hd : (Value.cells (.slice q n cap)).toList = [.slice q n cap] := rfl
  rw [hd] at hf
  rcases Deep.open_slice1 ht ck hf with ⟨e, _⟩ | ⟨a, len, cap', m, k, V, D, Pl, e, hb, hl, hm, hmm, _, hx⟩
  · simp only [List.cons.injEq, and_true] at e
    cases e
    exact ⟨none, 0, 0, fun _ => ⟨none, 0, 0, fun _ => 0⟩, rfl, .inl rfl, Nat.zero_le _⟩
  · simp only [List.cons.injEq, and_true] at e
    cases e
    have hmx : n ≤ 9223372036854775807 := Nat.le_trans hl hm
    by_cases h0 : n = 0
    · subst h0
      exact ⟨some a, 0, cap, fun _ => ⟨none, 0, 0, fun _ => 0⟩, rfl, .inl rfl, Nat.zero_le _⟩
    · have hnm : n ≤ m := by rw [hmm]; split <;> omega
      have each : ∀ i, i < n → ∃ T : TextOf, W.cell? (a.add i) = some (.slice T.p T.n T.c) ∧ BytesAt W T.p T.n T.g := fun i hi => by
        obtain ⟨h1, h2⟩ := hx i (by omega)
        obtain ⟨q1, n1, c1, g1, e1, _, _, h3, _⟩ := open_cell h2
        simp only [List.cons.injEq, and_true] at e1
        exact ⟨⟨q1, n1, c1, g1⟩, by rw [← e1]; exact h1, h3⟩
      obtain ⟨B, o, spot⟩ := a
      obtain ⟨T0, hx0, _⟩ := each 0 (by omega)
      have hspot : spot = none := by simpa [Addr.add] using World.cell?_spot hx0
      subst hspot
      simp only [add_plain] at each hx0
      have ch : ∀ i, ∃ T : TextOf, i < n → W.cell? ⟨B, o + i, none⟩ = some (.slice T.p T.n T.c) ∧ BytesAt W T.p T.n T.g := fun i => by
        by_cases hi : i < n
        · obtain ⟨T, hT⟩ := each i hi; exact ⟨T, fun _ => hT⟩
        · exact ⟨T0, fun h => absurd h hi⟩
      exact ⟨some ⟨B, o, none⟩, n, cap, fun i => Classical.choose (ch i), rfl, .inr ⟨B, o, rfl, block_lt_of_cell hx0, fun i hi => Classical.choose_spec (ch i) hi⟩, hmx⟩
end Go.Proofs.Ytbejfpdkfpgipaa

/- A list of texts as an argument; the start of a text laid over a zero sector. No condition. -/
import Derived.Test.YtdeojhcfbiekmaaDoorRdLaw
import Derived.Test.YtdeojhcfbiekmaaDoorRdOpen
namespace Go.Proofs.YtdeojhcfbiekmaaDoor
open Go.ChangeShapes Go.WideShapes Go.ChangeAt Go.RowKit
set_option linter.unusedVariables false
def ListsAt (W : World) (q : Option Addr) (n : Nat) (T : Nat → TextOf) : Prop := n = 0 ∨ ∃ B o, q = some ⟨B, o, none⟩ ∧ B < W.heap.size ∧ ∀ i, i < n → W.cell? ⟨B, o + i, none⟩ = some (.slice (T i).p (T i).n (T i).c) ∧ BytesAt W (T i).p (T i).n (T i).g ∧ ∀ j, j < (T i).n → (T i).g j < 256
theorem ListsAt.below {W W' : World} {q : Option Addr} {n : Nat} {T : Nat → TextOf} (h : ListsAt W q n T) (hb : Below W.heap.size W W') : ListsAt W' q n T := by
  rcases h with h | ⟨B, o, rfl, hB, hc⟩
  · exact .inl h
  · exact .inr ⟨B, o, rfl, Nat.lt_of_lt_of_le hB hb.size, fun i hi => ⟨(hb.cell (p := ⟨B, o + i, none⟩) hB).trans (hc i hi).1, (hc i hi).2.1.below hb, (hc i hi).2.2⟩⟩
set_option maxRecDepth 100000 in
theorem open_lists {H : Type} {enc : TypeId × Value → H} {W : World} {r : Reach} {b0 base : Nat} {spare : Nat → Bool} {held : Bool} {v : Value} {d : DataW H} {p : List MemPlace}
    (hv : Value.okWide Tryd.prog W r b0 43 v) (h : DataW.Trod enc Tryd.prog W base spare held 43 v d p) : ∃ (q : Option Addr) (n : Nat) (cap : Nat) (T : Nat → TextOf), v = .slice q n cap ∧ ListsAt W q n T ∧ n ≤ 9223372036854775807 := by
  obtain ⟨q, n, cap, rfl⟩ := okWide_slice Tryd.underlying43 hv
  obtain ⟨fuel, hf⟩ := h
  have ht : Tryd.prog.underlying 43 = some (.slice 22) := Tryd.underlying43
  have ck : Tryd.prog.cellsOf 22 = 1 := by kernel_rfl
  have hd : (Value.cells (.slice q n cap)).toList = [.slice q n cap] := rfl
  rw [hd] at hf
  rcases Deep.open_slice1 ht ck hf with ⟨e, _⟩ | ⟨a, len, cap', m, k, V, D, Pl, e, hb, hl, hm, hmm, _, hx⟩
  · simp only [List.cons.injEq, and_true] at e
    cases e
    exact ⟨none, 0, 0, fun _ => ⟨none, 0, 0, fun _ => 0⟩, rfl, .inl rfl, Nat.zero_le _⟩
  · simp only [List.cons.injEq, and_true] at e
    cases e
    have hmx : n ≤ 9223372036854775807 := Nat.le_trans hl hm
    by_cases h0 : n = 0
    · subst h0
      exact ⟨some a, 0, cap, fun _ => ⟨none, 0, 0, fun _ => 0⟩, rfl, .inl rfl, Nat.zero_le _⟩
    · have hnm : n ≤ m := by rw [hmm]; split <;> omega
      have each : ∀ i, i < n → ∃ T : TextOf, W.cell? (a.add i) = some (.slice T.p T.n T.c) ∧ BytesAt W T.p T.n T.g ∧ ∀ j, j < T.n → T.g j < 256 := fun i hi => by
        obtain ⟨h1, h2⟩ := hx i (by omega)
        obtain ⟨q1, n1, c1, g1, e1, _, h4, h3, _⟩ := open_cell h2
        simp only [List.cons.injEq, and_true] at e1
        exact ⟨⟨q1, n1, c1, g1⟩, by rw [← e1]; exact h1, h3, h4⟩
      obtain ⟨B, o, spot⟩ := a
      obtain ⟨T0, hx0, _⟩ := each 0 (by omega)
      have hspot : spot = none := by simpa [Addr.add] using World.cell?_spot hx0
      subst hspot
      simp only [add_plain] at each hx0
      have ch : ∀ i, ∃ T : TextOf, i < n → W.cell? ⟨B, o + i, none⟩ = some (.slice T.p T.n T.c) ∧ BytesAt W T.p T.n T.g ∧ ∀ j, j < T.n → T.g j < 256 := fun i => by
        by_cases hi : i < n
        · obtain ⟨T, hT⟩ := each i hi; exact ⟨T, fun _ => hT⟩
        · exact ⟨T0, fun h => absurd h hi⟩
      exact ⟨some ⟨B, o, none⟩, n, cap, fun i => Classical.choose (ch i), rfl, .inr ⟨B, o, rfl, block_lt_of_cell hx0, fun i hi => Classical.choose_spec (ch i) hi⟩, hmx⟩
/-- The sector that a text's start makes. -/
def cutS (T : TextOf) : List Int := mk 128 (extF T.n T.g)
theorem cutS_sec {T : TextOf} (h : ∀ i, i < T.n → T.g i < 256) : IsSec (cutS T) := isSec_mk fun i _ => by
  unfold extF
  split
  · exact h i ‹_›
  · decide
section
variable {ops : Array Oper} {rest : List Oper} {o : Oper} {a : Act} {w : World} {Q : Exit → Act → World → Prop}
theorem wpList_copy_upto (hgd : o.guard = none) (d s : Operand) (ho : o.op = .call { callee := .builtin .copy, args := #[d, s], argTypes := #[22, 22] })
    (B : Nat) (hd : a.eval d = .slice (some ⟨B, 0, none⟩) 128 128) (p : Option Addr) (n cap : Nat) (g : Nat → Nat) (hs : a.eval s = .slice p n cap) (t : TypeId) (hB : IntBlk w B .u8 t (mk 128 zeroK)) (hp : BytesAt w p n g)
    (h : ∀ (v : Value) (w' : World), IntBlk w' B .u8 t (mk 128 (extF n g)) → But B w w' → w'.heap.size = w.heap.size → wpList Tryd.prog ops Q rest (a.put o.dst v) w') : wpList Tryd.prog ops Q (o :: rest) a w := by
  by_cases h0 : n = 0
  · subst h0
    refine wpList_copy_nothing hgd d s _ _ ho 5 bytesUnder byteInfo _ p 128 128 0 cap hd hs (by simp) ?_
    refine h _ _ ?_ (.of (Below.refl _ _)) rfl
    rwa [show mk 128 (extF 0 g) = mk 128 zeroK from mk_ext fun j _ => by unfold extF zeroK; simp]
  · rcases hp with hp | ⟨C, o', rfl, _, hc⟩
    · exact absurd hp h0
    · refine wpList_copy_part hgd d s _ _ ho 5 bytesUnder byteInfo B 0 128 128 C o' n cap (Nat.min n 128) 128 zeroK g hd hs t hB (by rw [Nat.zero_add]; exact Nat.min_le_right n 128) rfl (fun j hj => hc j (Nat.lt_of_lt_of_le hj (Nat.min_le_left n 128))) ?_
      refine h _ _ ?_ (.setRow _ _ _) (by simp)
      rw [show mk 128 (extF n g) = mk 128 (put zeroK 0 (Nat.min n 128) g) from mk_ext fun j hj => by
        unfold extF put zeroK
        by_cases hjn : j < n
        · have : j < Nat.min n 128 := Nat.lt_min.2 ⟨hjn, hj⟩
          simp [hjn, this]
        · have : ¬ j < Nat.min n 128 := fun h => hjn (Nat.lt_of_lt_of_le h (Nat.min_le_left n 128))
          simp [hjn, this]]
      exact hB.setRow .u8 _
end
end Go.Proofs.YtdeojhcfbiekmaaDoor

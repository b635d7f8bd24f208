/- The contracts of slices.Clone at bytes and of package digest's Pieces: the iterator over a text's own copy. They write nothing that was there. Condition: the text has no more than 90000 bytes. -/
import Derived.Test.YtibbnnechjmdmaaDoorOfC
import Derived.Test.YtibbnnechjmdmaaDoorOwnB
namespace Go.Proofs.YtibbnnechjmdmaaDoor
open Go.ChangeShapes Go.WideShapes Go.ChangeAt Go.RowKit

set_option maxRecDepth 100000 in
set_option maxHeartbeats 1000000 in
theorem Clone_any (p : Option Addr) (n cap : Nat) (g : Nat → Nat) (hn : n ≤ 90000) (w : World) (hp : BytesAt w p n g) :
    Calls Tryd.prog 30 #[.slice p n cap] w fun e w' => ∃ p' c', e = .returned (.slice p' n c') ∧ n ≤ c' ∧ BytesAt w' p' n g ∧ Below w.heap.size w w' := by
  cases p with
  | none =>
    have h0 : n = 0 := by
      rcases hp with h | ⟨B, o, e, _⟩
      · exact h
      · cases e
    subst h0
    clear hp
    have he : ∀ W : World, (binOp .eql 34 (.slice none 0 cap) (.slice none 0 0)).run Tryd.prog W = .ok (.bool true) W := fun _ => rfl
    go_enter Tryd.func30, Tryd.ntmps30
    go_wp2
    go_ret
    exact ⟨none, 0, rfl, Nat.le_refl _, .inl rfl, Below.refl _ _⟩
  | some ad =>
    have A0 : Below w.heap.size w (w.alloc (.cells (cellsOf .u8 []) 5)) := (Below.refl _ w).alloc (Nat.le_refl _) _
    have HP := Lib.hid (hp.below A0)
    have F1 := Lib.hid (show ∀ j, j < n → g j = g (0 + j) from fun j _ => by rw [Nat.zero_add])
    have L0 := Lib.hid A0
    clear hp A0
    have he : ∀ W : World, (binOp .eql 34 (.slice (some ad) n cap) (.slice none 0 0)).run Tryd.prog W = .ok (.bool false) W := fun _ => rfl
    go_enter Tryd.func30, Tryd.ntmps30
    go_wp2_with (first | (refine wpList_buildFlat rfl 34 5 0 _ rfl .u8 [] bytesUnder byteInfo (by rw [byteZero1]; rfl) rfl (by omega) (by omega) rfl ?_) | (refine wpList_append_own_bytes rfl (.tmp 5) (.tmp 6) rfl w.heap.size (w.heap.size + 1) 0 _ g g (some ad) n cap rfl rfl (OwnS.empty w g w.heap.size (Nat.le_refl _)) HP.out F1.out (by omega) (by simp) ?_; intro v1 w1 hv1 hb1; rw [Nat.zero_add] at hv1; obtain ⟨p1, c1, rfl, hc1, _, hp1, _⟩ := hv1.bytes (Nat.le_refl _); have HP1 := Lib.hid hp1; have HL1 := Lib.hid (L0.out.trans hb1); have HC1 := Lib.hid hc1; clear hv1 hb1 hp1 hc1))
    go_ret
    exact ⟨p1, c1, rfl, HC1.out, HP1.out, HL1.out⟩
/-- One part, where it is. -/
def onePart (p : Option Addr) (n c : Nat) : Nat → Option Addr × Nat × Nat := fun _ => (p, n, c)
theorem onePart_len (p : Option Addr) (n c : Nat) : lenTo (onePart p n c) 1 = n := by show 0 + n = n; omega

set_option maxRecDepth 100000 in
set_option maxHeartbeats 1000000 in
theorem Pieces_any (p : Option Addr) (n cap : Nat) (g : Nat → Nat) (hn : n ≤ 90000) (w : World) (hp : BytesAt w p n g) :
    Calls Tryd.prog 21 #[.slice p n cap] w fun e w' => ∃ p' c' B Bq, e = .returned (.func (.func 38) #[] #[.pointer (some ⟨Bq, 0, none⟩)]) ∧ n ≤ c' ∧ Bq < w'.heap.size ∧ w'.cell? ⟨Bq, 0, none⟩ = some (.slice (some ⟨B, 0, none⟩) 1 1) ∧
      PartsIn w'.heap.size w' (some ⟨B, 0, none⟩) 1 (onePart p' n c') g ∧ Below w.heap.size w w' := by
  have HP := Lib.hid hp
  clear hp
  go_enter Tryd.func21, Tryd.ntmps21
  go_wp2_with (first
    | (go_at_call 30; refine (Clone_any p n cap g hn _ HP.out).mono ?_; rintro e w1 ⟨p1, c1, rfl, hc1, hp1, hb1⟩
       have HP1 := Lib.hid hp1; have HB1 := Lib.hid hb1; have HC1 := Lib.hid hc1
       clear hp1 hb1 hc1 HP)
    | (go_at_call 27; refine (pieces_any _ _ _ _).mono ?_; rintro e w2 ⟨rfl, hw2⟩))
  go_ret
  have A1 : Below w1.heap.size w1 (w1.alloc (.cells #[.slice p1 n c1] 34)) := (Below.refl _ w1).alloc (Nat.le_refl _) _
  have A2 : Below w1.heap.size w1 w2 := by rw [← hw2]; exact A1.alloc (by simp) _
  have s2 : w2.heap.size = w1.heap.size + 2 := by rw [← hw2]; simp
  have cB : w2.cell? ⟨w1.heap.size, 0, none⟩ = some (.slice p1 n c1) := by
    rw [← hw2]
    have h := heap_alloc_new w1 (.cells #[.slice p1 n c1] 34)
    exact cell_of_one ((Below.heap_alloc _ _ _ (by simp)).trans h)
  have cQ : w2.cell? ⟨w1.heap.size + 1, 0, none⟩ = some (.slice (some ⟨w1.heap.size, 0, none⟩) 1 1) := by
    have h := heap_alloc_new (w1.alloc (.cells #[.slice p1 n c1] 34)) (.cells #[.slice (some ⟨w1.heap.size, 0, none⟩) 1 1] 55)
    rw [World.size_alloc, hw2] at h
    exact cell_of_one h
  refine ⟨p1, c1, w1.heap.size, w1.heap.size + 1, ?_, HC1.out, by omega, cQ, ⟨.inr ⟨w1.heap.size, 0, rfl, by omega, fun i hi => ?_⟩, fun i hi => ?_⟩, HB1.out.trans (A2.mono HB1.out.size)⟩
  · simp
  · obtain rfl : i = 0 := by omega
    exact cB
  · obtain rfl : i = 0 := by omega
    rcases HP1.out with h | ⟨b, o, h2, h3, h4⟩
    · exact .inl h
    · refine .inr ⟨b, o, h2, by omega, fun j hj => ?_⟩
      have := (Cells.below h4 A2 h3) j hj
      show w2.cell? _ = some (.int .u8 (g (0 + j) : Nat))
      rw [Nat.zero_add]; exact this
end Go.Proofs.YtibbnnechjmdmaaDoor

/- The contract of the program's Encode: a command's bytes. Conditions: the Data lies in memory. -/
import Derived.Test.YtkibeddfkenlkaaCbNums
import Derived.Laws.Append
namespace Go.Proofs.Ytkibeddfkenlkaa
open Go.ChangeShapes Go.WideShapes Go.ChangeAt Go.RowKit
set_option linter.unusedVariables false
set_option linter.unusedSimpArgs false
/-- Bytes appended to a full row: a new row, with noughts in its room. -/
theorem zeros_u8 (n : Nat) : (Builtin.zeroCells (Value.int .u8 0).cells n).toList = (mk n zeroK).map (Value.int .u8) := by
  apply List.ext_getElem?
  intro i
  have hs : (Value.int .u8 0).cells.size = 1 := rfl
  by_cases hi : i < n
  · simp [Builtin.zeroCells, hs, mk, zeroK, hi]
    rw [Nat.mod_one]; rfl
  · simp [Builtin.zeroCells, hs, mk, hi]
theorem append_full {w : World} (ty : TypeId) {D s : Nat} {F : Nat → Nat} (h : IntBlk w D .u8 5 (mk s F)) (p : Option Addr) (n cap : Nat) (g : Nat → Nat) (hp : BytesAt w p n g) (h0 : 0 < n) (hk : s + n ≤ 140737488355328) :
    ∃ C w', (Builtin.append_ #[22, 22] ty #[.slice (some ⟨D, 0, none⟩) s s, .slice p n cap]).run Try.prog w = .ok (.slice (some ⟨w.heap.size, 0, none⟩) (s + n) C) w' ∧ IntBlk w' w.heap.size .u8 5 (mk C (extF (s + n) (cat s F g))) ∧ s + n ≤ C ∧ Below w.heap.size w w' := by
  have hi := byteInfo
  have hz := byteZero1
  have hb := byteBytes1
  cases hq : Try.prog.info? 5 with
  | none => rw [hq] at hi; simp at hi
  | some i =>
    rw [hq] at hi hb hz
    have hsz : i.size = 1 := by simpa using hi
    have hzz : i.zero = some (.int .u8 0) := by simpa using hz
    have hby : i.bytes = 1 := by simpa using hb
    rcases hp with hp | ⟨B, off, rfl, hB, hc⟩
    · omega
    · have e := run_append_grow (P := Try.prog) w 22 ty 5 i (.int .u8 0) bytesUnder hq hzz ⟨D, 0, none⟩ s s (bytesList s F) (by rw [bytesList_len, hsz, Nat.mul_one]) (fun j u hj => by
          obtain ⟨hj1, rfl⟩ := bytesList_get hj
          rw [addr_add]
          have := h.cells (o := 0) (n := s) (by omega) j hj1
          simp only [Nat.zero_add] at this ⊢
          exact this) ⟨B, off, none⟩ n cap (bytesList n g) (by rw [bytesList_len, hsz, Nat.mul_one]) (fun j u hj => by
          obtain ⟨hj1, rfl⟩ := bytesList_get hj
          rw [addr_add]; exact hc j hj1) (by omega) (by omega) (growslice_fits (by omega) (by rw [hby]; omega))
      have hge := grownCap_ge w (s + n) s 5
      refine ⟨_, _, e, ?_, hge, (Below.refl _ w).drew.alloc (Nat.le_refl _) _⟩
      obtain ⟨M, hM⟩ : ∃ M, grownCap w (s + n) s 5 = s + n + M := ⟨_, (Nat.add_sub_cancel' hge).symm⟩
      rw [hM, Nat.add_sub_cancel_left]
      have ec : (bytesList s F).toArray ++ (bytesList n g).toArray ++ Builtin.zeroCells (Value.int .u8 0).cells M = cellsOf .u8 (mk (s + n + M) (extF (s + n) (cat s F g))) := by
        apply Array.ext'
        rw [Array.toList_append, Array.toList_append, zeros_u8]
        have e1 : mk (s + n + M) (extF (s + n) (cat s F g)) = mk s F ++ mk n g ++ mk M zeroK := by
          apply List.ext_getElem?
          intro j
          unfold mk extF cat zeroK
          by_cases h1 : j < s
          · rw [List.append_assoc, List.getElem?_append_left (by simpa using h1)]
            simp [h1, show j < s + n + M by omega, show j < s + n by omega]
          · by_cases h2 : j < s + n
            · rw [List.getElem?_append_left (by simp; omega), List.getElem?_append_right (by simp; omega)]
              simp [h1, h2, show j < s + n + M by omega, show j - s < n by omega]
            · rw [List.getElem?_append_right (by simp; omega)]
              by_cases h3 : j < s + n + M
              · simp [h2, h3, show j - (s + n) < M by omega]
              · simp [h3, show ¬ j - (s + n) < M by omega]
        unfold cellsOf
        rw [e1]
        simp [bytesList, mk]
        rfl
      have hw : (w.drew).heap.size = w.heap.size := rfl
      show IntBlk _ _ _ _ _
      unfold IntBlk
      rw [ec]
      exact heap_alloc_new w.drew _
end Go.Proofs.Ytkibeddfkenlkaa

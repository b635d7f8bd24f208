/- Labels: strings turned to bytes, a nought appended; a number's four bytes; the contract of package mac's numbered. Conditions: as each says. -/
import Derived.Test.YtfjbehobpkmjbaaDoorMacT
import Derived.Lib.ConvBytes
import Derived.Lib.AppendStr
namespace Go.Proofs.YtfjbehobpkmjbaaDoor
open Go.ChangeShapes Go.WideShapes Go.ChangeAt Go.RowKit
set_option linter.unusedVariables false

/-- A string's bytes. -/
def sB (s : ByteArray) : Nat → Nat := fun j => (s.data.toList.getD j 0).toNat
theorem sB_lt (s : ByteArray) (j : Nat) : sB s j < 256 := UInt8.toNat_lt _
theorem conv_str_run (s : ByteArray) (w : World) : (convert 9 22 (.string s)).run Tryd.prog w = .ok (.slice (some ⟨w.heap.size, 0, none⟩) s.size (grownCap w s.size 0 5)) (Lib.bytesWorld w 5 s) :=
  Lib.run_convert_string_bytes w _ _ _ s stringUnder1 bytesUnder byteUnder1
/-- What lies behind a conversion: the bytes, then noughts, in a row whose mark lies behind its end. -/
def MarkAt (w : World) (B n c : Nat) (f : Nat → Nat) : Prop := ∃ cur, w.heap[B]? = some (.cells cur 5 (cur.size, cur.size + 1)) ∧ cur.size = c ∧ n ≤ c ∧ c ≤ maxLen ∧ cur.toList.take n = bytesList n f
theorem MarkAt.lt {w : World} {B n c : Nat} {f : Nat → Nat} (h : MarkAt w B n c f) : B < w.heap.size := by obtain ⟨cur, h, _⟩ := h; exact (Array.getElem?_eq_some_iff.1 h).1
theorem MarkAt.below {w w' : World} {B n c M : Nat} {f : Nat → Nat} (h : MarkAt w B n c f) (hb : Below M w w') (hM : B < M) : MarkAt w' B n c f := by
  obtain ⟨cur, h1, h2⟩ := h
  exact ⟨cur, (hb.block B hM).trans h1, h2⟩
theorem MarkAt.bytes {w : World} {B n c : Nat} {f : Nat → Nat} (h : MarkAt w B n c f) : BytesAt w (some ⟨B, 0, none⟩) n f := by
  obtain ⟨cur, h1, h2, h3, h4, h5⟩ := h
  refine .inr ⟨B, 0, rfl, (Array.getElem?_eq_some_iff.1 h1).1, fun j hj => ?_⟩
  rw [Nat.zero_add, cell_of_row w B j cur _ _ h1]
  have := bytesList_at (n := n) (F := f) (j := j) hj
  rw [← h5, List.getElem?_take_of_lt hj] at this
  simpa using this
theorem conv_str_world (s : ByteArray) (w : World) (hs : s.size ≤ 140737488351232) : MarkAt (Lib.bytesWorld w 5 s) w.heap.size s.size (grownCap w s.size 0 5) (sB s) ∧ Below w.heap.size w (Lib.bytesWorld w 5 s) := by
  have hge := grownCap_ge w s.size 0 5
  have hle := grownCap_le_maxLen w s.size 0 5 (by simp only [maxLen]; omega)
  have hsd : s.data.size = s.size := rfl
  have hsz : (Lib.bytesCells w 5 s).size = grownCap w s.size 0 5 := by
    unfold Lib.bytesCells
    simp only [Array.size_append, Array.size_map, Array.size_replicate, hsd]; omega
  refine ⟨⟨Lib.bytesCells w 5 s, Lib.bytesWorld_at_new w _ s, hsz, hge, hle, ?_⟩, ?_⟩
  · unfold Lib.bytesCells bytesList
    rw [Array.toList_append, List.take_append_of_le_length (by simp [hsd])]
    apply List.ext_getElem?
    intro i
    by_cases hi : i < s.size
    · rw [List.getElem?_take_of_lt hi]
      have hl : i < s.data.toList.length := by simpa [hsd] using hi
      simp [hi, sB]
    · rw [List.getElem?_eq_none (by simp; omega), List.getElem?_eq_none (by simp; omega)]
  · refine ⟨?_, ?_, ?_, by rw [Lib.bytesWorld_size]; omega, fun k hk => Lib.bytesWorld_at_old w _ s k hk⟩ <;> (unfold Lib.bytesWorld World.freeze; split <;> rfl)
/-- Cells stored ahead of a row's mark. -/
theorem run_storeCells_mark (g o : Nat) (t : TypeId) (fz : Nat × Nat) : ∀ (vs : List Value) (i : Nat) (cur : Array Value) (w : World), w.heap[g]? = some (.cells cur t fz) → cur.size ≤ fz.1 → o + i + vs.length ≤ cur.size → (∀ v ∈ vs, v.oneCell' = true) →
    (storeCells ⟨g, o, none⟩ vs i).run Tryd.prog w = .ok () (w.setRow g (cur.toList.take (o + i) ++ vs ++ cur.toList.drop (o + i + vs.length)).toArray)
  | [], i, cur, w, hg, _, _, _ => by
    simp only [storeCells, List.append_nil, List.length_nil, Nat.add_zero, List.take_append_drop, Array.toArray_toList]
    rw [setRow_self w g cur t fz hg]
    rfl
  | v :: rest, i, cur, w, hg, hfz, hl, h1 => by
    have hi : o + i < cur.size := by simp at hl; omega
    have hadd : (⟨g, o, none⟩ : Addr).add i = ⟨g, o + i, none⟩ := by unfold Addr.add; split <;> simp_all
    have hcell : w.cell? ⟨g, o + i, none⟩ = some cur[o + i] := by simp [World.cell?, hg, hi]
    have hfro : w.frozen? ⟨g, o + i, none⟩ = false := by
      obtain ⟨lo, hi'⟩ := fz
      simp only [World.frozen?, hg, Bool.and_eq_false_iff, decide_eq_false_iff_not]
      left
      simp only at hfz
      omega
    have hst : (store ((⟨g, o, none⟩ : Addr).add i) v).run Tryd.prog w = .ok () (w.setRow g (cur.setIfInBounds (o + i) v)) := by
      rw [hadd, run_store Tryd.prog w _ v _ (h1 v (by simp)), hcell]
      simp [hfro, setCell_eq_setRow w g (o + i) cur t fz v hg]
    have ih := run_storeCells_mark g o t fz rest (i + 1) (cur.setIfInBounds (o + i) v) (w.setRow g (cur.setIfInBounds (o + i) v)) (setRow_heap w g cur _ t _ hg) (by simpa using hfz) (by simp at hl ⊢; omega) (fun x hx => h1 x (by simp [hx]))
    simp only [storeCells, Sem.run_bind, hst, Result.andThen_ok, ih, setRow_setRow]
    congr 3
    have e := list_seg_step cur.toList (o + i) v rest (by simp at hl ⊢; omega)
    simpa [Array.toList_setIfInBounds, Nat.add_assoc] using e
/-- A label's bytes with a nought behind. -/
def labB (s : ByteArray) : Nat → Nat := fun j => if j < s.size then sB s j else 0
theorem labB_lt (s : ByteArray) (j : Nat) : labB s j < 256 := by unfold labB; split; exact sB_lt _ _; omega
theorem append_mark_run {w : World} {B n c : Nat} {f F : Nat → Nat} (ty : TypeId) (h : MarkAt w B n c f) (p : Option Addr) (m cap : Nat) (hp : BytesAt w p m (fun j => F (n + j))) (hm : m ≠ 0) (hF : ∀ j, j < n → f j = F j) (hn : n + m ≤ 140737488355328) :
    ∃ p' c' w', (Builtin.append_ #[22, 22] ty #[.slice (some ⟨B, 0, none⟩) n c, .slice p m cap]).run Tryd.prog w = .ok (.slice p' (n + m) c') w' ∧ n + m ≤ c' ∧ BytesAt w' p' (n + m) F ∧ Below B w w' ∧ ∃ B', p' = some ⟨B', 0, none⟩ ∧ B ≤ B' := by
  obtain ⟨cur, h1, h2, h3, h4, h5⟩ := h
  have hi := byteInfo
  have hz := byteZero1
  have hb := byteBytes1
  have hBl := (Array.getElem?_eq_some_iff.1 h1).1
  have hnF : bytesList n f = bytesList n F := by unfold bytesList; exact List.map_congr_left fun t ht => by rw [hF t (List.mem_range.1 ht)]
  have hall : bytesList n F ++ bytesList m (fun j => F (n + j)) = bytesList (n + m) F := bytesList_more n m F _ (fun _ _ => rfl)
  cases hq : Tryd.prog.info? 5 with
  | none => rw [hq] at hi; simp at hi
  | some i =>
    rw [hq] at hi hb hz
    have hsz : i.size = 1 := by simpa using hi
    have hzz : i.zero = some (.int .u8 0) := by simpa using hz
    have hby : i.bytes = 1 := by simpa using hb
    rcases hp with hp | ⟨b, off, rfl, hbl, hc⟩
    · exact absurd hp hm
    have hnews : ∀ j u, (bytesList m fun j => F (n + j))[j]? = some u → w.cell? ((⟨b, off, none⟩ : Addr).add j) = some u := fun j u hj => by
      obtain ⟨hj1, rfl⟩ := bytesList_get hj
      rw [addr_add]; exact hc j hj1
    have hf := run_firstCells_some (P := Tryd.prog) w i.size m ⟨b, off, none⟩ m cap (bytesList m fun j => F (n + j)) (by rw [bytesList_len, hsz, Nat.mul_one]) hnews
    have read : ∀ (cs : Array Value) (fr : Nat × Nat) (w' : World) (D : Nat), w'.heap[D]? = some (.cells cs 5 fr) → cs.toList.take (n + m) = bytesList (n + m) F → BytesAt w' (some ⟨D, 0, none⟩) (n + m) F := fun cs fr w' D hD ht => by
      refine .inr ⟨D, 0, rfl, (Array.getElem?_eq_some_iff.1 hD).1, fun j hj => ?_⟩
      rw [Nat.zero_add, cell_of_row w' D j cs _ _ hD]
      have := bytesList_at (n := n + m) (F := F) (j := j) hj
      rw [← ht, List.getElem?_take_of_lt hj] at this
      simpa using this
    by_cases hroom : n + m ≤ c
    · have hst := run_storeCells_mark B n 5 (cur.size, cur.size + 1) (bytesList m fun j => F (n + j)) 0 cur w h1 (Nat.le_refl _) (by rw [bytesList_len]; omega) bytesList_one
      simp only [Nat.add_zero, bytesList_len] at hst
      have hrun : (Builtin.append_ #[22, 22] ty #[.slice (some ⟨B, 0, none⟩) n c, .slice (some ⟨b, off, none⟩) m cap]).run Tryd.prog w = .ok (.slice (some ⟨B, 0, none⟩) (n + m) c) (w.setRow B (cur.toList.take n ++ (bytesList m fun j => F (n + j)) ++ cur.toList.drop (n + m)).toArray) := by
        rw [hsz] at hf
        simp [Builtin.append_, run_underlying bytesUnder, sizeOf, typeInfo, hq, hsz, Builtin.lenOf, hroom, hf, Addr.add_lit, hst]
      refine ⟨_, c, _, hrun, hroom, read _ _ _ B (setRow_heap w B cur _ 5 _ h1) ?_, below_setRow (Below.refl _ _) (Nat.le_refl _) _, B, rfl, Nat.le_refl _⟩
      rw [h5, hnF, hall]
      exact List.take_left' (bytesList_len _ _)
    · have holds : ∀ j u, (bytesList n F)[j]? = some u → w.cell? ((⟨B, 0, none⟩ : Addr).add j) = some u := fun j u hj => by
        obtain ⟨hj1, rfl⟩ := bytesList_get hj
        rw [addr_add, Nat.zero_add, cell_of_row w B j cur _ _ h1]
        have := bytesList_at (n := n) (F := F) hj1
        rw [← hnF, ← h5, List.getElem?_take_of_lt hj1] at this
        simpa using this
      have hr := run_append_grow (P := Tryd.prog) w 22 ty 5 i (.int .u8 0) bytesUnder hq hzz ⟨B, 0, none⟩ n c (bytesList n F) (by rw [bytesList_len, hsz, Nat.mul_one]) holds ⟨b, off, none⟩ m cap (bytesList m fun j => F (n + j)) (by rw [bytesList_len, hsz, Nat.mul_one]) hnews (by omega) (by omega) (by rw [hby]; exact growslice_fits (by omega) (by omega))
      have hge := grownCap_ge w (n + m) c 5
      refine ⟨_, _, _, hr, hge, read _ (0, 0) _ w.heap.size (heap_alloc_new w.drew _) ?_, ⟨rfl, rfl, rfl, by simp, fun k hk => Below.heap_alloc w.drew _ k (by show k < w.heap.size; omega)⟩, w.heap.size, rfl, by omega⟩
      simp only [Array.toList_append, List.append_assoc]
      rw [← List.append_assoc, hall]
      exact List.take_left' (bytesList_len _ _)
/-- A number's four bytes. -/
def numB (i : Nat) : Nat → Nat := fun j => i / 256 ^ (3 - j) % 256
theorem numB_lt (i j : Nat) : numB i j < 256 := Nat.mod_lt _ (by omega)
end Go.Proofs.YtfjbehobpkmjbaaDoor

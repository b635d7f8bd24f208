/- The example's string turned to bytes; Data as a row of its own. Condition: as each says. -/
import Derived.Test.YtebbnkkhabehmaaPdLw
import Derived.Lib.ConvBytes
import Derived.Lib.AppendStr
namespace Go.Proofs.Ytebbnkkhabehmaa
open Go.ChangeShapes Go.WideShapes Go.ChangeAt Go.RowKit
set_option linter.unusedVariables false
set_option linter.unusedSimpArgs false
/-- A string's bytes. -/
def sB (s : ByteArray) : Nat → Nat := fun j => (s.data.toList.getD j 0).toNat
theorem sB_lt (s : ByteArray) (j : Nat) : sB s j < 256 := UInt8.toNat_lt _
theorem conv_str_run (s : ByteArray) (w : World) : (convert 9 22 (.string s)).run Try.prog w = .ok (.slice (some ⟨w.heap.size, 0, none⟩) s.size (grownCap w s.size 0 5)) (Lib.bytesWorld w 5 s) :=
  Lib.run_convert_string_bytes w _ _ _ s stringUnder1 bytesUnder byteUnder1
/-- What lies behind a conversion: the bytes, then noughts, in a row whose mark lies behind its end. -/
def MarkAt (w : World) (B n c : Nat) (f : Nat → Nat) : Prop := ∃ cur, w.heap[B]? = some (.cells cur 5 (cur.size, cur.size + 1)) ∧ cur.size = c ∧ n ≤ c ∧ c ≤ maxLen ∧ cur.toList.take n = bytesList n f
theorem MarkAt.lt {w : World} {B n c : Nat} {f : Nat → Nat} (h : MarkAt w B n c f) : B < w.heap.size := by obtain ⟨cur, h, _⟩ := h; exact (Array.getElem?_eq_some_iff.1 h).1
theorem MarkAt.below {w w' : World} {B n c M : Nat} {f : Nat → Nat} (h : MarkAt w B n c f) (hb : Below M w w') (hM : B < M) : MarkAt w' B n c f := by
  obtain ⟨cur, h1, h2⟩ := h
  exact ⟨cur, (hb.block B hM).trans h1, h2⟩
theorem MarkAt.bytes {w : World} {B n c : Nat} {f : Nat → Nat} (h : MarkAt w B n c f) : BytesAt w (some ⟨B, 0, none⟩) n f := by
  obtain ⟨cur, h1, h2, h3, h4, h5⟩ := h
  refine .inr ⟨B, 0, rfl, (Array.getElem?_eq_some_iff.1 h1).1, fun j hj => ?_⟩
  rw [Nat.zero_add, cell_of_row w B j cur _ _ h1]
  have := bytesList_at (n := n) (F := f) (j := j) hj
  rw [← h5, List.getElem?_take_of_lt hj] at this
  simpa using this
theorem conv_str_world (s : ByteArray) (w : World) (hs : s.size ≤ 140737488351232) : MarkAt (Lib.bytesWorld w 5 s) w.heap.size s.size (grownCap w s.size 0 5) (sB s) ∧ Below w.heap.size w (Lib.bytesWorld w 5 s) := by
  have hge := grownCap_ge w s.size 0 5
  have hle := grownCap_le_maxLen w s.size 0 5 (by simp only [maxLen]; omega)
  have hsd : s.data.size = s.size := rfl
  have hsz : (Lib.bytesCells w 5 s).size = grownCap w s.size 0 5 := by
    unfold Lib.bytesCells
    simp only [Array.size_append, Array.size_map, Array.size_replicate, hsd]; omega
  refine ⟨⟨Lib.bytesCells w 5 s, Lib.bytesWorld_at_new w _ s, hsz, hge, hle, ?_⟩, ?_⟩
  · unfold Lib.bytesCells bytesList
    rw [Array.toList_append, List.take_append_of_le_length (by simp [hsd])]
    apply List.ext_getElem?
    intro i
    by_cases hi : i < s.size
    · rw [List.getElem?_take_of_lt hi]
      have hl : i < s.data.toList.length := by simpa [hsd] using hi
      simp [hi, sB]
    · rw [List.getElem?_eq_none (by simp; omega), List.getElem?_eq_none (by simp; omega)]
  · refine ⟨?_, ?_, ?_, by rw [Lib.bytesWorld_size]; omega, fun k hk => Lib.bytesWorld_at_old w _ s k hk⟩ <;> (unfold Lib.bytesWorld World.freeze; split <;> rfl)
theorem wpList_conv_str {ops : Array Oper} {rest : List Oper} {o : Oper} {a : Act} {w : World} {Q : Exit → Act → World → Prop} (hgd : o.guard = none) (x : Operand) (ho : o.op = .convert 9 22 x) (s : ByteArray) (hx : a.eval x = .string s)
    (h : wpList Try.prog ops Q rest (a.put o.dst (.slice (some ⟨w.heap.size, 0, none⟩) s.size (grownCap w s.size 0 5))) (Lib.bytesWorld w 5 s)) : wpList Try.prog ops Q (o :: rest) a w := by
  refine wpList_plain hgd fun K hK => ?_
  have hr := conv_str_run s w
  unfold Oper.wp execOp
  simp only [ho, hx, Sem.run_bind, hr]
  exact hK _ _ h
theorem mk_at {n : Nat} {f g : Nat → Nat} (h : mk n f = mk n g) : ∀ j, j < n → f j = g j := fun j hj => by
  have := congrArg (fun l => l.getD j 0) h
  simp only [mk_get hj] at this
  omega
theorem ten_sB (g : Nat → Nat) : ∀ j, j < 8 → sB tenS j = frT 7 0 10 0 g j := mk_at (by rw [ten_list]; rfl)
theorem wpList_ten {ops : Array Oper} {rest : List Oper} {o : Oper} {a : Act} {w : World} {Q : Exit → Act → World → Prop} (hgd : o.guard = none) (x : Operand) (ho : o.op = .convert 9 22 x) (hx : a.eval x = .string tenS)
    (h : ∀ c w', 8 ≤ c → BytesAt w' (some ⟨w.heap.size, 0, none⟩) 8 (frT 7 0 10 0 zeroK) → Below w.heap.size w w' → wpList Try.prog ops Q rest (a.put o.dst (.slice (some ⟨w.heap.size, 0, none⟩) 8 c)) w') : wpList Try.prog ops Q (o :: rest) a w := by
  obtain ⟨m, l⟩ := conv_str_world tenS w (by decide)
  refine wpList_conv_str hgd x ho tenS hx (h _ _ ?_ (bytes_congr (ten_sB zeroK) m.bytes) l)
  obtain ⟨cur, _, _, h3, _⟩ := m
  exact h3
theorem DatO.own {W : World} {p : Option Addr} {d C S : Nat} {g : Nat → Nat} (h : DatO W p d C S g) (K : Nat) (hK : K < S) (hd : d ≤ 140737488351232) : ∃ D nl F, p = pOf D nl ∧ D ≠ K ∧ ∀ T W', T ≤ S → Below W.heap.size W W' → Own W' T D d C nl F := by
  rcases h with ⟨rfl, rfl, rfl⟩ | ⟨D, G, rfl, hs, hc, ⟨R, h1, h2⟩, hg⟩
  · exact ⟨K + 1, true, zeroK, rfl, Nat.succ_ne_self _, fun T W' _ _ => .inl ⟨rfl, rfl, rfl⟩⟩
  · exact ⟨D, false, G, rfl, by omega, fun T W' hT hb => .inr ⟨rfl, by omega, hc, hd, R, h1, h2.below hb h2.lt⟩⟩
end Go.Proofs.Ytebbnkkhabehmaa

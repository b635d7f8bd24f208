/- Lists of frames: opened, read, made; which of them are in form; Apart of no rows. Condition: as each says. -/
import Derived.Test.YtebbnkkhabehmaaPdBk
import Derived.Great.BuildSlice
import Derived.Deep.MidRow
namespace Go.Proofs.Ytebbnkkhabehmaa
open Go.ChangeShapes Go.WideShapes Go.ChangeAt Go.RowKit
set_option linter.unusedVariables false
set_option linter.unusedSimpArgs false
def frZ : Fr := ⟨0, 0, 0, none, 0, 0, zeroK⟩
def frE : Fr := ⟨7, 0, 10, none, 0, 0, zeroK⟩
theorem FrsAt.below {W W' : World} {q : Option Addr} {L : List Fr} (h : FrsAt W q L) (hb : Below W.heap.size W W') : FrsAt W' q L := by
  rcases h with h | ⟨B, o, h1, h2, h3⟩
  · exact .inl h
  · exact .inr ⟨B, o, h1, Nat.lt_of_lt_of_le h2 hb.size, fun i f hf j hj => (hb.cell (p := ⟨B, o + 4 * i + j, none⟩) h2).trans (h3 i f hf j hj)⟩
theorem frs_at {W : World} {q : Option Addr} {L : List Fr} (h : FrsAt W q L) {i : Nat} {f : Fr} (hf : L[i]? = some f) : ∃ B o, q = some ⟨B, o, none⟩ ∧ B < W.heap.size ∧ W.rangeAt B (o + 4 * i) f.A.toList := by
  rcases h with rfl | ⟨B, o, h1, h2, h3⟩
  · simp at hf
  · refine ⟨B, o, h1, h2, fun j v hv => ?_⟩
    have hj : j < 4 := by
      rcases Nat.lt_or_ge j 4 with h | h
      · exact h
      · rw [List.getElem?_eq_none (by show f.A.toList.length ≤ j; simp [Fr.A, frA]; omega)] at hv; cases hv
    rw [h3 i f hf j hj, ← hv]
    simp
theorem frSize : (Try.prog.info? 24).map (·.size) = some 4 := rowFr.size
theorem frSize_run (w : World) : (sizeOf 24).run Try.prog w = .ok 4 w := by
  have hi := frSize
  cases hq : Try.prog.info? 24 with
  | none => simp [hq] at hi
  | some i =>
    have hs : i.size = 4 := by simpa [hq] using hi
    simp [sizeOf, typeInfo, hq, hs]
theorem fr_fill : Instr.fill (fun i => some (i * 4, 4)) ((Array.range (2 * 4)).map ((frA 0 0 0 none 0 0)[· % (frA 0 0 0 none 0 0).size]!)) [(0, .agg frZ.A), (1, .agg frE.A)] = some (frZ.A.toList ++ frE.A.toList).toArray := by kernel_rfl
theorem frs_under : Try.prog.underlying 50 = some (.slice 24) := Try.underlying50
theorem run_frs2 (w : World) : (Instr.buildSlice 50 2 #[(0, .agg frZ.A), (1, .agg frE.A)]).run Try.prog w = .ok (.slice (some ⟨w.heap.size, 0, none⟩) 2 2) (w.alloc (.cells (frZ.A.toList ++ frE.A.toList).toArray 24)) := by
  have hi := rowFr.size
  have hz := rowFr.zero
  cases hq : Try.prog.info? 24 with
  | none => rw [hq] at hi; simp at hi
  | some i =>
    rw [hq] at hi hz
    have hs : i.size = 4 := by simpa using hi
    have hzz : i.zero = some (.agg (frA 0 0 0 none 0 0)) := by simpa using hz
    refine run_buildSlice w 50 24 2 _ _ i _ frs_under hq hzz (by rw [hs]; omega) (by rw [hs]; omega) ?_
    rw [hs]; exact fr_fill
theorem frs2_at (w : World) : FrsAt (w.alloc (.cells (frZ.A.toList ++ frE.A.toList).toArray 24)) (some ⟨w.heap.size, 0, none⟩) [frZ, frE] :=
  .inr ⟨w.heap.size, 0, rfl, by simp, fun i f hf j hj => by
    rw [cell_of_row _ _ _ _ _ _ (heap_alloc_new w (.cells (frZ.A.toList ++ frE.A.toList).toArray 24))]
    rcases i with _ | _ | i
    · obtain rfl : frZ = f := by simpa using hf
      rcases (show j = 0 ∨ j = 1 ∨ j = 2 ∨ j = 3 by omega) with rfl | rfl | rfl | rfl <;> rfl
    · obtain rfl : frE = f := by simpa using hf
      rcases (show j = 0 ∨ j = 1 ∨ j = 2 ∨ j = 3 by omega) with rfl | rfl | rfl | rfl <;> rfl
    · simp at hf⟩
theorem frZ_ok (W : World) : frZ.Ok W := ⟨⟨by decide, by decide⟩, ⟨by decide, by decide⟩, ⟨by decide, by decide⟩, fun i hi => absurd hi (Nat.not_lt_zero _), .inl rfl, Nat.le_refl _, Nat.zero_le _⟩
theorem frE_ok (W : World) : frE.Ok W := ⟨⟨by decide, by decide⟩, ⟨by decide, by decide⟩, ⟨by decide, by decide⟩, fun i hi => absurd hi (Nat.not_lt_zero _), .inl rfl, Nat.le_refl _, Nat.zero_le _⟩
theorem frE_only : [frZ, frE].filter (fun f => decide f.In) = [frE] := by
  have h1 : decide frZ.In = false := by decide
  have h2 : decide frE.In = true := by decide
  simp [List.filter, h1, h2]
section
variable {ops : Array Oper} {rest : List Oper} {o : Oper} {a : Act} {w : World} {Q : Exit → Act → World → Prop}
theorem wpList_frs2 (hw : Region.wanted o (yielded ops a.tmps) = true) (x y : Operand) (ho : o.op = .buildSlice 50 2 #[(0, x), (1, y)]) (hx : a.eval x = .agg (frA 0 0 0 none 0 0)) (hy : a.eval y = .agg (frA 7 0 10 none 0 0))
    (h : ∀ w', FrsAt w' (some ⟨w.heap.size, 0, none⟩) [frZ, frE] → Below w.heap.size w w' → wpList Try.prog ops Q rest (a.put o.dst (.slice (some ⟨w.heap.size, 0, none⟩) 2 2)) w') : wpList Try.prog ops Q (o :: rest) a w :=
  wanted_step hw fun _ hK => by
    have e := run_frs2 w
    have hx' : a.eval x = .agg frZ.A := hx
    have hy' : a.eval y = .agg frE.A := hy
    unfold Oper.wp execOp
    simp only [ho]
    simp [hx', hy', e]
    exact hK _ _ (h _ (frs2_at w) ((Below.refl _ w).alloc (Nat.le_refl _) _))
theorem wpList_fr_elem (hw : Region.wanted o (yielded ops a.tmps) = true) (x y : Operand) (ho : o.op = .indexAddr 50 x y) (B off n cap k : Nat) (hx : a.eval x = .slice (some ⟨B, off, none⟩) n cap) (hy : a.eval y = .int .i64 k) (hk : k < n) (h : wpList Try.prog ops Q rest (a.put o.dst (.pointer (some ⟨B, off + 4 * k, none⟩))) w) : wpList Try.prog ops Q (o :: rest) a w :=
  wanted_step hw fun K hK => by
    have h0 : (k : Int) < n := by omega
    have hs := frSize_run w
    unfold Oper.wp execOp
    simp only [ho, hx, hy]
    simp [go_sem, frs_under, h0, hs, addr_add]
    rw [Nat.mul_comm]
    exact hK _ _ h
theorem wpList_fr_load (hgd : o.guard = none) (x : Operand) (ho : o.op = .load 24 x) (B off : Nat) (hx : a.eval x = .pointer (some ⟨B, off, none⟩)) (f : Fr) (hc : w.rangeAt B off f.A.toList) (h : wpList Try.prog ops Q rest (a.put o.dst (.agg f.A)) w) : wpList Try.prog ops Q (o :: rest) a w :=
  wpList_load_mid hgd _ x ho B off hx f.A.toList _ hc Try.underlying24 rfl frSize h
end
/-! ### Which are in form -/
/-- The frames in form among the first so many. -/
def goodL (L : List Fr) : List Fr := L.filter (fun f => decide f.In)
theorem goodL_yes {L : List Fr} {i : Nat} {f : Fr} (hf : L[i]? = some f) (h : f.In) : goodL (L.take (i + 1)) = goodL (L.take i) ++ [f] := by
  unfold goodL; rw [List.take_add_one, hf, List.filter_append]; simp [h]
theorem goodL_no {L : List Fr} {i : Nat} {f : Fr} (hf : L[i]? = some f) (h : ¬ f.In) : goodL (L.take (i + 1)) = goodL (L.take i) := by
  unfold goodL; rw [List.take_add_one, hf, List.filter_append]; simp [h]
theorem goodL_split (L : List Fr) (i : Nat) : goodL L = goodL (L.take i) ++ goodL (L.drop i) := by
  unfold goodL; rw [← List.filter_append, List.take_append_drop]
theorem goodL_at {L : List Fr} {i : Nat} {f : Fr} (hf : L[i]? = some f) (h : f.In) : (goodL L)[(goodL (L.take i)).length]? = some f := by
  rw [goodL_split L (i + 1), goodL_yes hf h, List.getElem?_append_left (by simp), List.getElem?_append_right (Nat.le_refl _)]
  simp
theorem goodL_lt {L : List Fr} {i : Nat} {f : Fr} (hf : L[i]? = some f) (h : f.In) : (goodL (L.take i)).length < (goodL L).length := by
  have := goodL_at hf h
  rcases Nat.lt_or_ge (goodL (L.take i)).length (goodL L).length with h | h
  · exact h
  · rw [List.getElem?_eq_none h] at this; cases this
theorem goodL_all {L : List Fr} {i : Nat} (h : L.length ≤ i) : goodL (L.take i) = goodL L := by rw [List.take_of_length_le h]
theorem goodL_none {L : List Fr} {i : Nat} {f : Fr} (h : goodL L = []) (hf : L[i]? = some f) : ¬ f.In := fun hi => by
  have := goodL_at hf hi; rw [h] at this; simp at this
theorem goodL_len (L : List Fr) : (goodL L).length ≤ L.length := List.length_filter_le _ _
/-- What the first so many weigh. -/
def sumD (L : List Fr) : Nat → Nat
  | 0 => 0
  | i + 1 => sumD L i + (1 + (L.getD i frZ).d)
theorem sumD_ge (L : List Fr) : ∀ i, i ≤ sumD L i
  | 0 => Nat.le_refl _
  | i + 1 => by have := sumD_ge L i; unfold sumD; omega
theorem sumD_next {L : List Fr} {i : Nat} {f : Fr} (hf : L[i]? = some f) : sumD L (i + 1) = sumD L i + (1 + f.d) := by
  show sumD L i + (1 + (L.getD i frZ).d) = _
  rw [List.getD_eq_getElem?_getD, hf]; rfl
theorem Out.below {W W' : World} {S LB : Nat} {LS : Array Value} {L : List Fr} {D C : Nat → Nat} {G : Nat → Nat → Nat} (h : Out W S LB LS L D C G) (hb : Below W.heap.size W W') : Out W' S LB LS L D C G where
  lb := (hb.block LB (lt_of_block h.lb)).trans h.lb
  ls := h.ls
  row i f hf := by obtain ⟨h1, h2⟩ := h.row i f hf; exact ⟨h1.below hb h1.lt, h2⟩
  ne := h.ne
  low := h.low
theorem Out.at_ {W : World} {S LB : Nat} {LS : Array Value} {L : List Fr} {D C : Nat → Nat} {G : Nat → Nat → Nat} (h : Out W S LB LS L D C G) {i : Nat} {f : Fr} (hf : L[i]? = some f) :
    W.cell? ⟨LB, i, none⟩ = some (.slice (some ⟨D i, 0, none⟩) (8 + f.d) (C i)) ∧ BytesAt W (some ⟨D i, 0, none⟩) (8 + f.d) f.T := by
  have hi : i < L.length := by
    rcases Nat.lt_or_ge i L.length with h | h
    · exact h
    · rw [List.getElem?_eq_none h] at hf; cases hf
  have h1 := apart.heap_cell h.lb (h.ls i hi)
  rw [List.getD_eq_getElem?_getD, hf] at h1
  obtain ⟨h2, h3, _, h4⟩ := h.row i f hf
  exact ⟨h1, h2.bytes h3 h4⟩
/-! ### Opened -/
set_option maxRecDepth 100000 in
theorem open_frames {H : Type} {enc : TypeId × Value → H} {W : World} {r : Reach} {b0 base : Nat} {spare : Nat → Bool} {held : Bool} {v : Value} {d : DataW H} {p : List MemPlace} (hv : Value.okWide Try.prog W r b0 50 v) (h : DataW.Trod enc Try.prog W base spare held 50 v d p) :
    ∃ (q : Option Addr) (cap : Nat) (L : List Fr), v = .slice q L.length cap ∧ FrsAt W q L ∧ (∀ f ∈ L, f.Ok W) ∧ L.length ≤ cap ∧ cap ≤ maxLen := by
  obtain ⟨q, n, cap, rfl⟩ := okWide_slice frs_under hv
  obtain ⟨fuel, hf⟩ := h
  have ck : Try.prog.cellsOf 24 = 4 := by kernel_rfl
  have hd : (Value.cells (.slice q n cap)).toList = [.slice q n cap] := rfl
  rw [hd] at hf
  rcases Deep.open_slice frs_under hf with ⟨e, _⟩ | ⟨a, len, cap', m, k, D, Pl, e, hb, hl, hm, hmm, hdx, hx⟩
  · simp only [List.cons.injEq, and_true] at e
    cases e
    exact ⟨none, 0, [], rfl, .inl rfl, fun f h => by simp at h, Nat.le_refl _, Nat.zero_le _⟩
  · simp only [List.cons.injEq, and_true] at e
    cases e
    by_cases h0 : n = 0
    · subst h0
      exact ⟨some a, cap, [], rfl, .inl rfl, fun f h => by simp at h, hl, hm⟩
    · have hnm : n ≤ m := by rw [hmm]; split <;> omega
      obtain ⟨B, o, spot⟩ := a
      have hspot : spot = none := by
        obtain ⟨cs, h1, h2⟩ := hx 0 (by omega)
        obtain ⟨f, rfl, hT⟩ := open_frame_cells h2
        rw [ck] at h1
        have h3 := (World.cells?_some h1).2.2 0 (by omega)
        have h4 : W.cell? (((⟨B, o, spot⟩ : Addr).add (0 * 4)).add 0) = some (.int .i64 f.k) := by simpa [Fr.A, frA] using h3
        have := World.cell?_spot h4
        cases spot with
        | none => rfl
        | some s => simp [Addr.add] at this
      subst hspot
      have each : ∀ i, i < n → ∃ f : Fr, (∀ j, j < 4 → W.cell? ⟨B, o + (i * 4 + j), none⟩ = f.A[j]?) ∧ f.Ok W := fun i hi => by
        obtain ⟨cs, h1, h2⟩ := hx i (by omega)
        obtain ⟨f, rfl, hT⟩ := open_frame_cells h2
        rw [ck] at h1
        refine ⟨f, fun j hj => ?_, hT⟩
        have h3 := (World.cells?_some h1).2.2 j hj
        rw [add_plain, add_plain, Nat.add_assoc] at h3
        rw [h3]; simp
      obtain ⟨f0, hx0, _⟩ := each 0 (by omega)
      have hx00 : W.cell? ⟨B, o + (0 * 4 + 0), none⟩ = some (.int .i64 f0.k) := hx0 0 (by omega)
      have ch : ∀ i, ∃ f : Fr, i < n → (∀ j, j < 4 → W.cell? ⟨B, o + (i * 4 + j), none⟩ = f.A[j]?) ∧ f.Ok W := fun i => by
        by_cases hi : i < n
        · obtain ⟨f, hf⟩ := each i hi; exact ⟨f, fun _ => hf⟩
        · exact ⟨frZ, fun h => absurd h hi⟩
      have hlen : ((List.range n).map fun i => Classical.choose (ch i)).length = n := by simp
      refine ⟨some ⟨B, o, none⟩, cap, (List.range n).map fun i => Classical.choose (ch i), by rw [hlen], .inr ⟨B, o, rfl, block_lt_of_cell hx00, fun i f hf j hj => ?_⟩, fun f hf => ?_, by rw [hlen]; exact hl, hm⟩
      · have hi : i < n := by
          rcases Nat.lt_or_ge i n with h | h
          · exact h
          · rw [List.getElem?_eq_none (by rw [hlen]; exact h)] at hf; cases hf
        have he : Classical.choose (ch i) = f := by simpa [hi] using hf
        rw [← he, Nat.mul_comm 4 i, Nat.add_assoc]
        exact (Classical.choose_spec (ch i) hi).1 j hj
      · obtain ⟨i, hi, rfl⟩ := List.mem_map.1 hf
        exact (Classical.choose_spec (ch i) (List.mem_range.1 hi)).2
/-! ### No rows -/
attribute [local go_sem] Oper.semAt_some
set_option maxRecDepth 100000 in
set_option maxHeartbeats 4000000 in
theorem Apart_none {w : World} (p : Option Addr) (c : Nat) : Calls Try.prog 15 #[.slice p 0 c] w fun e w' => e = .returned (.bool true) ∧ Below w.heap.size w w' := by
  go_enter Try.func15, Try.ntmps15
  go_wp2
  go_loopw [15] (fun v V => v = .int .i64 0 ∧ w = V) (fun _ _ => 0)
  case atStart => exact ⟨rfl, rfl⟩
  case round =>
    obtain ⟨rfl, rfl⟩ := hrel
    go_wp2
    go_loopw [6, 40] (fun v6 v40 V => v40 = .int .i64 0 ∧ v6 = .slice (some ⟨w.heap.size, 0, none⟩) 0 0 ∧ Below w.heap.size w V) (fun _ _ _ => 0)
    case atStart => exact ⟨rfl, rfl, (Below.refl _ _).alloc (Nat.le_refl _) _⟩
    case round =>
      obtain ⟨rfl, rfl, hb⟩ := hrel
      have HB := Lib.hid hb
      clear hb
      go_wp2
      go_loopw [70] (fun v V => v = .int .i64 0 ∧ Below w.heap.size w V) (fun _ _ => 0)
      case atStart => exact ⟨rfl, HB.out⟩
      case round =>
        obtain ⟨rfl, hb⟩ := hrel
        have HB2 := Lib.hid hb
        clear hb HB
        go_wp2
        go_ret
        exact ⟨rfl, HB2.out⟩
end Go.Proofs.Ytebbnkkhabehmaa

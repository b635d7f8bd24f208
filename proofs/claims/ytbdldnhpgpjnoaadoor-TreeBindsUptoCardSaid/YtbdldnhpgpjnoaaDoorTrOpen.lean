/- Structs of slices of bytes, numbers and tags that come in as arguments of layer 11's statements, opened; how many bytes they hold. Conditions: as each says. -/
import Derived.Test.YtbdldnhpgpjnoaaDoorTrText
import Derived.Lib.SmallJoins
import Derived.ChangeMaps5
namespace Go.Proofs.YtbdldnhpgpjnoaaDoor
open Go.ChangeShapes Go.WideShapes Go.ChangeAt Go.RowKit
set_option linter.unusedVariables false
/-- A cell that is a slice of bytes. -/
theorem open_cell {H : Type} {enc : TypeId × Value → H} {W : World} {base fuel : Nat} {spare : Nat → Bool} {held : Bool} {cs : List Value} {x : DataW H × List MemPlace} (h : DataW.trod enc Tryd.prog W base spare held fuel 22 cs = some x) :
    ∃ (q : Option Addr) (n cap : Nat) (g : Nat → Nat), cs = [.slice q n cap] ∧ DataW.Trod enc Tryd.prog W base spare held 22 (.slice q n cap) x.1 x.2 ∧ (∀ i, i < n → g i < 256) ∧ BytesAt W q n g ∧ n ≤ cap := by
  have ht : Tryd.prog.underlying 22 = some (.slice 5) := Tryd.underlying22
  have ck : Tryd.prog.cellsOf 5 = 1 := by kernel_rfl
  have h' := h
  rcases Deep.open_slice1 ht ck h with ⟨rfl, _⟩ | ⟨a, len, cap', m, k, V, D, Pl, rfl, hb, hl, hm, hmm, _, hx⟩
  · exact ⟨none, 0, 0, zeroK, rfl, ⟨fuel, h'⟩, fun i hi => absurd hi (Nat.not_lt_zero _), .inl rfl, Nat.le_refl _⟩
  · refine (?_ : ∃ (g : Nat → Nat), (∀ i, i < len → g i < 256) ∧ BytesAt W (some a) len g).elim fun g ⟨h1, h2⟩ => ⟨some a, len, cap', g, rfl, ⟨fuel, h'⟩, h1, h2, hl⟩
    by_cases h0 : len = 0
    · exact ⟨zeroK, fun i hi => absurd hi (by omega), .inl h0⟩
    · have hnm : len ≤ m := by rw [hmm]; split <;> omega
      have each : ∀ i, i < len → ∃ x : Nat, x < 256 ∧ W.cell? (a.add i) = some (.int .u8 x) := fun i hi => by
        obtain ⟨h1, h2⟩ := hx i (by omega)
        obtain ⟨x, hx1, _, hw⟩ := DataW.trod_int Tryd.underlying5 h2
        have hb := bounds_u8 hw
        simp only [List.cons.injEq, and_true] at hx1
        refine ⟨x.toNat, by omega, ?_⟩
        rw [show ((x.toNat : Nat) : Int) = x by omega, ← hx1]; exact h1
      obtain ⟨B, o, spot⟩ := a
      obtain ⟨x0, _, hx0⟩ := each 0 (by omega)
      have hspot : spot = none := by simpa [Addr.add] using World.cell?_spot hx0
      subst hspot
      simp only [add_plain] at each hx0
      refine ⟨fun i => byteAt W B (o + i), fun i hi => ?_, .inr ⟨B, o, rfl, block_lt_of_cell hx0, fun i hi => ?_⟩⟩
      · obtain ⟨x, hx1, hx2⟩ := each i hi
        show byteAt W B (o + i) < 256
        rw [byteAt_is hx2]; exact hx1
      · obtain ⟨x, hx1, hx2⟩ := each i hi
        show W.cell? ⟨B, o + i, none⟩ = some (.int .u8 (byteAt W B (o + i) : Nat))
        rw [byteAt_is hx2]; exact hx2

theorem five_cells {cs : List Value} {a b c d f : Value} (hl : cs.length = 5) (h0 : (cs.drop 0).take 1 = [a]) (h1 : (cs.drop 1).take 1 = [b]) (h2 : (cs.drop 2).take 1 = [c]) (h3 : (cs.drop 3).take 1 = [d]) (h4 : (cs.drop 4).take 1 = [f]) : cs = [a, b, c, d, f] := by
  match cs, hl with
  | [x, y, z, u, v], _ => simp_all
def sumN (f : Nat → Nat) : Nat → Nat
  | 0 => 0
  | n + 1 => sumN f n + f n
theorem bulk_pos {H : Type} (d : DataW H) : 1 ≤ Rows.uptoBulk d := by
  cases d with
  | lit l => cases l <;> simp [Rows.uptoBulk]
  | _ => simp [Rows.uptoBulk]
theorem bulk_append {H : Type} (l m : List (DataW H)) : Rows.uptoBulkAll (l ++ m) = Rows.uptoBulkAll l + Rows.uptoBulkAll m := by
  induction l with
  | nil => simp [Rows.uptoBulkAll]
  | cons a l ih => simp only [List.cons_append, Rows.uptoBulkAll, ih]; omega
theorem bulk_range {H : Type} {D : Nat → DataW H} {f : Nat → Nat} (n : Nat) (h : ∀ i, i < n → f i ≤ Rows.uptoBulk (D i)) : sumN f n ≤ Rows.uptoBulkAll ((List.range n).map D) := by
  induction n with
  | zero => exact Nat.zero_le _
  | succ n ih =>
    have h1 := ih fun i hi => h i (by omega)
    have h2 := h n (by omega)
    rw [List.range_succ, List.map_append, bulk_append]
    simp only [List.map_cons, List.map_nil, Rows.uptoBulkAll]
    show sumN f n + f n ≤ _
    omega
theorem sumN_one (n : Nat) : sumN (fun _ => 1) n = n := by
  induction n with
  | zero => rfl
  | succ n ih => show sumN (fun _ => 1) n + 1 = n + 1; rw [ih]
theorem bulk_slice1 {H : Type} {enc : TypeId × Value → H} {P : Program} {W : World} {base fuel : Nat} {spare : Nat → Bool} {held : Bool} {t e : TypeId} {q : Option Addr} {n cap : Nat} {x : DataW H × List MemPlace} (ht : P.underlying t = some (.slice e)) (ck : P.cellsOf e = 1)
    (h : DataW.trod enc P W base spare held fuel t [.slice q n cap] = some x) : n + 1 ≤ Rows.uptoBulk x.1 := by
  rcases Deep.open_slice1 ht ck h with ⟨e, rfl⟩ | ⟨a, len, cap', m, k, V, D, Pl, e, hb, hl, hm, hmm, rfl, hx⟩
  · simp only [List.cons.injEq, and_true] at e
    cases e
    exact bulk_pos _
  · simp only [List.cons.injEq, and_true] at e
    cases e
    have := bulk_range (f := fun _ => 1) n (fun i _ => bulk_pos (D i))
    rw [sumN_one] at this
    simp only [Rows.uptoBulk]
    omega
theorem trod_agg5 {H : Type} {enc : TypeId × Value → H} {P : Program} {w : World} {base : Nat} {spare : Nat → Bool} {held : Bool} {t : TypeId} {f0 f1 f2 f3 f4 : Field} {fuel : Nat} {cs : List Value} {x : DataW H × List MemPlace} (ht : P.underlying t = some (.struct #[f0, f1, f2, f3, f4])) (h : DataW.trod enc P w base spare held fuel t cs = some x) :
    ∃ y0 y1 y2 y3 y4 n, cs.length = P.cellsOf t ∧ DataW.trod enc P w base spare held n f0.type ((cs.drop f0.offset).take (P.cellsOf f0.type)) = some y0 ∧
      DataW.trod enc P w base spare held n f1.type ((cs.drop f1.offset).take (P.cellsOf f1.type)) = some y1 ∧ DataW.trod enc P w base spare held n f2.type ((cs.drop f2.offset).take (P.cellsOf f2.type)) = some y2 ∧
      DataW.trod enc P w base spare held n f3.type ((cs.drop f3.offset).take (P.cellsOf f3.type)) = some y3 ∧ DataW.trod enc P w base spare held n f4.type ((cs.drop f4.offset).take (P.cellsOf f4.type)) = some y4 ∧
      Rows.uptoBulk y1.1 + Rows.uptoBulk y2.1 ≤ Rows.uptoBulk x.1 := by
  obtain ⟨xs, n, _, rfl, hl, hlen, hf⟩ := DataW.trod_struct ht h
  match xs, hlen with
  | [y0, y1, y2, y3, y4], _ => exact ⟨y0, y1, y2, y3, y4, n, hl, by simpa using hf 0 f0 rfl, by simpa using hf 1 f1 rfl, by simpa using hf 2 f2 rfl, by simpa using hf 3 f3 rfl, by simpa using hf 4 f4 rfl, by simp only [List.map_cons, List.map_nil, Rows.uptoBulk, Rows.uptoBulkAll]; omega⟩
theorem bytes_of_trod {H : Type} {enc : TypeId × Value → H} {P : Program} {W : World} {base fuel : Nat} {spare : Nat → Bool} {held : Bool} {t e : TypeId} {n : Nat} {cs : List Value} {x : DataW H × List MemPlace}
    (ht : P.underlying t = some (.array n e)) (he : P.underlying e = some (.int .u8)) (hc : P.cellsOf e = 1) (h : DataW.trod enc P W base spare held fuel t cs = some x) : ∀ i, i < n → ∃ a : Nat, a < 256 ∧ cs[i]? = some (.int .u8 a) := by
  obtain ⟨xs, m, rfl, hx, hlen, hxn, hel⟩ := DataW.trod_array ht h
  intro i hi
  have hi2 := hel i hi
  rw [hc, Nat.mul_one] at hi2
  have hlt : i < xs.length := by omega
  rw [List.getElem?_eq_getElem hlt] at hi2
  obtain ⟨a, ha, _, hw⟩ := DataW.trod_int he hi2
  have hb := bounds_u8 hw
  refine ⟨a.toNat, by omega, ?_⟩
  rw [show ((a.toNat : Nat) : Int) = a by omega]
  have h0 : (List.take 1 (List.drop i cs))[0]? = some (.int .u8 a) := by rw [ha]; rfl
  rw [List.getElem?_take_of_lt (by omega), List.getElem?_drop] at h0
  simpa using h0
/-- Cells that are a tag. -/
theorem sum_of_trod {H : Type} {enc : TypeId × Value → H} {W : World} {base fuel : Nat} {spare : Nat → Bool} {held : Bool} {cs : List Value} {x : DataW H × List MemPlace} (h : DataW.trod enc Tryd.prog W base spare held fuel 27 cs = some x) (hl : cs.length = 32) : ∃ s : List Int, IsSum s ∧ cs = sumC s := by
  have e := bytes_of_trod Tryd.underlying27 Tryd.underlying5 (by kernel_rfl) h
  have ch : ∀ i, ∃ a : Nat, a < 256 ∧ (i < 32 → cs[i]? = some (.int .u8 a)) := fun i => by
    by_cases hi : i < 32
    · obtain ⟨a, h1, h2⟩ := e i hi; exact ⟨a, h1, fun _ => h2⟩
    · exact ⟨0, by decide, fun h => absurd h hi⟩
  have hf : ∀ i, Classical.choose (ch i) < 256 := fun i => (Classical.choose_spec (ch i)).1
  have hs : IsSum (mk 32 fun i => Classical.choose (ch i)) := isSum_mk fun i _ => hf i
  refine ⟨_, hs, ?_⟩
  apply List.ext_getElem?
  intro i
  rcases Nat.lt_or_ge i 32 with hi | hi
  · rw [(Classical.choose_spec (ch i)).2 hi, sumC_get _ hi, natF_mk hi]
  · rw [List.getElem?_eq_none (by omega), List.getElem?_eq_none (by rw [sumC_len]; exact hi)]
/-- A key's bytes, and other ones. -/
structure BytesIn (W : World) (q : Option Addr) (n c : Nat) (g : Nat → Nat) : Prop where
  lt : ∀ i, i < n → g i < 256
  cap : n ≤ c
  at' : BytesAt W q n g
theorem BytesIn.below {W W' : World} {q : Option Addr} {n c : Nat} {g : Nat → Nat} (h : BytesIn W q n c g) (hb : Below W.heap.size W W') : BytesIn W' q n c g := ⟨h.lt, h.cap, h.at'.below hb⟩
def pairV (q : Option Addr) (n c : Nat) (z : Int) (l r : List Int) : Value := .agg (Value.slice q n c :: .int .i64 z :: (sumC l ++ sumC r)).toArray
def updV (q : Option Addr) (n c : Nat) (p : Option Addr) (m d : Nat) (z : Int) (l : List Int) (b : Bool) : Value := .agg (Value.slice q n c :: .slice p m d :: .int .i64 z :: (sumC l ++ [.bool b])).toArray
set_option maxRecDepth 100000 in
theorem open_pair {H : Type} {enc : TypeId × Value → H} {W : World} {r : Reach} {b0 base : Nat} {spare : Nat → Bool} {held : Bool} {v : Value} {d : DataW H} {p : List MemPlace} (hv : Value.okWide Tryd.prog W r b0 31 v) (h : DataW.Trod enc Tryd.prog W base spare held 31 v d p) :
    ∃ (q : Option Addr) (n c : Nat) (g : Nat → Nat) (z : Int) (s t : List Int), v = pairV q n c z s t ∧ BytesIn W q n c g ∧ (Lit.int .i64 z).wf = true ∧ IsSum s ∧ IsSum t := by
  obtain ⟨cs, rfl, hsz⟩ := okWide_struct Tryd.underlying31 hv
  rw [show Tryd.prog.cellsOf 31 = 66 by kernel_rfl] at hsz
  obtain ⟨fuel, hf⟩ := h
  obtain ⟨y0, y1, y2, y3, n, hx, hl, t0, t1, t2, t3⟩ := Joins.trod_struct4 Tryd.underlying31 hf
  have hdd : (Value.cells (.agg cs)).toList = cs.toList := rfl
  rw [hdd] at t0 t1 t2 t3
  have k1 : Tryd.prog.cellsOf 22 = 1 := by kernel_rfl
  have k2 : Tryd.prog.cellsOf 3 = 1 := by kernel_rfl
  have k3 : Tryd.prog.cellsOf 27 = 32 := by kernel_rfl
  simp only [k1, k2, k3] at t0 t1 t2 t3
  have hcl : cs.toList.length = 66 := by simpa using hsz
  obtain ⟨q0, n0, c0, g0, e0, r0, b0, x0, l0⟩ := open_cell t0
  obtain ⟨z, e1, _, w1⟩ := DataW.trod_int Tryd.underlying3 t1
  obtain ⟨s, hs, e2⟩ := sum_of_trod t2 (by simp only [List.length_take, List.length_drop]; omega)
  obtain ⟨u, hu, e3⟩ := sum_of_trod t3 (by simp only [List.length_take, List.length_drop]; omega)
  have hcs : cs.toList = .slice q0 n0 c0 :: .int .i64 z :: (sumC s ++ sumC u) := by
    generalize cs.toList = L at *
    match L, hcl with
    | a :: b :: L, hcl =>
      simp only [List.drop_zero, List.take_succ_cons, List.take_zero, List.drop_succ_cons, List.cons.injEq, and_true] at e0 e1 e2 e3
      rw [e0, e1, ← e2, ← e3]
      have : L.length = 64 := by simpa using hcl
      rw [List.take_of_length_le (l := List.drop 32 L) (by rw [List.length_drop]; omega), List.take_append_drop]
  refine ⟨q0, n0, c0, g0, z, s, u, ?_, ⟨b0, l0, x0⟩, w1, hs, hu⟩
  unfold pairV
  rw [← hcs]
set_option maxRecDepth 100000 in
theorem open_updated {H : Type} {enc : TypeId × Value → H} {W : World} {r : Reach} {b0 base : Nat} {spare : Nat → Bool} {held : Bool} {v : Value} {d : DataW H} {p : List MemPlace} (hv : Value.okWide Tryd.prog W r b0 53 v) (h : DataW.Trod enc Tryd.prog W base spare held 53 v d p) :
    ∃ (q : Option Addr) (n c : Nat) (g : Nat → Nat) (q2 : Option Addr) (n2 c2 : Nat) (g2 : Nat → Nat) (z : Int) (s : List Int) (b : Bool), v = updV q n c q2 n2 c2 z s b ∧ BytesIn W q n c g ∧ BytesIn W q2 n2 c2 g2 ∧ (Lit.int .i64 z).wf = true ∧ IsSum s := by
  obtain ⟨cs, rfl, hsz⟩ := okWide_struct Tryd.underlying53 hv
  rw [show Tryd.prog.cellsOf 53 = 36 by kernel_rfl] at hsz
  obtain ⟨fuel, hf⟩ := h
  obtain ⟨y0, y1, y2, y3, y4, n, hl, t0, t1, t2, t3, t4, _⟩ := trod_agg5 Tryd.underlying53 hf
  have hdd : (Value.cells (.agg cs)).toList = cs.toList := rfl
  rw [hdd] at t0 t1 t2 t3 t4
  have k1 : Tryd.prog.cellsOf 22 = 1 := by kernel_rfl
  have k2 : Tryd.prog.cellsOf 3 = 1 := by kernel_rfl
  have k3 : Tryd.prog.cellsOf 27 = 32 := by kernel_rfl
  have k4 : Tryd.prog.cellsOf 4 = 1 := by kernel_rfl
  simp only [k1, k2, k3, k4] at t0 t1 t2 t3 t4
  have hcl : cs.toList.length = 36 := by simpa using hsz
  obtain ⟨q0, n0, c0, g0, e0, r0, b0, x0, l0⟩ := open_cell t0
  obtain ⟨q2, n2, c2, g2, e1, r2, b2, x2, l2⟩ := open_cell t1
  obtain ⟨z, e2, _, w2⟩ := DataW.trod_int Tryd.underlying3 t2
  obtain ⟨s, hs, e3⟩ := sum_of_trod t3 (by simp only [List.length_take, List.length_drop]; omega)
  obtain ⟨b, e4, _⟩ := DataW.trod_bool Tryd.underlying4 t4
  have hcs : cs.toList = .slice q0 n0 c0 :: .slice q2 n2 c2 :: .int .i64 z :: (sumC s ++ [.bool b]) := by
    generalize cs.toList = L at *
    match L, hcl with
    | a :: b :: c :: L, hcl =>
      simp only [List.drop_zero, List.take_succ_cons, List.take_zero, List.drop_succ_cons, List.cons.injEq, and_true] at e0 e1 e2 e3 e4
      rw [e0, e1, e2, ← e3, ← e4]
      have : L.length = 33 := by simpa using hcl
      rw [List.take_of_length_le (l := List.drop 32 L) (by rw [List.length_drop]; omega), List.take_append_drop]
  refine ⟨q0, n0, c0, g0, q2, n2, c2, g2, z, s, b, ?_, ⟨b0, l0, x0⟩, ⟨b2, l2, x2⟩, w2, hs⟩
  unfold updV
  rw [← hcs]
set_option maxRecDepth 100000 in
theorem open_bound {H : Type} {enc : TypeId × Value → H} {W : World} {r : Reach} {b0 base : Nat} {spare : Nat → Bool} {held : Bool} {v : Value} {d : DataW H} {p : List MemPlace} (hv : Value.okWide Tryd.prog W r b0 57 v) (h : DataW.Trod enc Tryd.prog W base spare held 57 v d p) :
    ∃ (q : Option Addr) (n c : Nat) (g : Nat → Nat) (q1 : Option Addr) (n1 c1 : Nat) (g1 : Nat → Nat) (q2 : Option Addr) (n2 c2 : Nat) (g2 : Nat → Nat) (z : Int) (b : Nat), v = .agg #[.slice q n c, .slice q1 n1 c1, .slice q2 n2 c2, .int .i64 z, .int .u8 b] ∧ BytesIn W q n c g ∧ BytesIn W q1 n1 c1 g1 ∧ BytesIn W q2 n2 c2 g2 ∧ (Lit.int .i64 z).wf = true ∧ b < 256 ∧ n1 + n2 ≤ Rows.uptoBulk d := by
  obtain ⟨cs, rfl, hsz⟩ := okWide_struct Tryd.underlying57 hv
  rw [show Tryd.prog.cellsOf 57 = 5 by kernel_rfl] at hsz
  obtain ⟨fuel, hf⟩ := h
  obtain ⟨y0, y1, y2, y3, y4, n, hl, t0, t1, t2, t3, t4, hbk⟩ := trod_agg5 Tryd.underlying57 hf
  have hdd : (Value.cells (.agg cs)).toList = cs.toList := rfl
  rw [hdd] at t0 t1 t2 t3 t4
  have k1 : Tryd.prog.cellsOf 22 = 1 := by kernel_rfl
  have k2 : Tryd.prog.cellsOf 3 = 1 := by kernel_rfl
  have k3 : Tryd.prog.cellsOf 5 = 1 := by kernel_rfl
  simp only [k1, k2, k3] at t0 t1 t2 t3 t4
  obtain ⟨q0, n0, c0, g0, e0, _, b0, x0, l0⟩ := open_cell t0
  obtain ⟨q1, n1, c1, g1, e1, _, b1, x1, l1⟩ := open_cell t1
  obtain ⟨q2, n2, c2, g2, e2, _, b2, x2, l2⟩ := open_cell t2
  obtain ⟨z, e3, _, w3⟩ := DataW.trod_int Tryd.underlying3 t3
  obtain ⟨y, e4, _, w4⟩ := DataW.trod_int Tryd.underlying5 t4
  have hb := bounds_u8 w4
  rw [e1] at t1
  rw [e2] at t2
  have s1 := bulk_slice1 Tryd.underlying22 (by kernel_rfl) t1
  have s2 := bulk_slice1 Tryd.underlying22 (by kernel_rfl) t2
  have hbk2 : Rows.uptoBulk y1.1 + Rows.uptoBulk y2.1 ≤ Rows.uptoBulk d := hbk
  have hcs : cs = #[.slice q0 n0 c0, .slice q1 n1 c1, .slice q2 n2 c2, .int .i64 z, .int .u8 y] := by
    have := five_cells (cs := cs.toList) (by simpa using hsz) e0 e1 e2 e3 e4
    exact Array.ext' this
  refine ⟨q0, n0, c0, g0, q1, n1, c1, g1, q2, n2, c2, g2, z, y.toNat, ?_, ⟨b0, l0, x0⟩, ⟨b1, l1, x1⟩, ⟨b2, l2, x2⟩, w3, by omega, by omega⟩
  rw [hcs, show ((y.toNat : Nat) : Int) = y by omega]
end Go.Proofs.YtbdldnhpgpjnoaaDoor

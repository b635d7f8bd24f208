/- The argument of PlatterPlays opened: a list of calls, each with its kind, two numbers, its bytes and its list. No condition. -/
import Derived.Test.YtbejfpdkfpgipaaPlLists
import Derived.Test.YtbejfpdkfpgipaaRows
namespace Go.Proofs.Ytbejfpdkfpgipaa
open Go.ChangeShapes Go.WideShapes Go.ChangeAt Go.RowKit
set_option linter.unusedVariables false
/-- One call. -/
structure CallOf where
  kind : Int
  at' : Int
  n : Int
  bytes : TextOf
  kq : Option Addr
  kl : List Int
  kc : Nat
def CallOf.cells (c : CallOf) : List Value := [.int .i64 c.kind, .int .i64 c.at', .int .i64 c.n, .slice c.bytes.p c.bytes.n c.bytes.c, .slice c.kq c.kl.length c.kc]
structure CallOk (W : World) (c : CallOf) : Prop where
  k1 : (Lit.int .i64 c.kind).wf = true
  k2 : (Lit.int .i64 c.at').wf = true
  k3 : (Lit.int .i64 c.n).wf = true
  lt : ∀ i, i < c.bytes.n → c.bytes.g i < 256
  bytes : BytesAt W c.bytes.p c.bytes.n c.bytes.g
  keep : IntsAt W c.kq c.kl
  ok : okInts c.kl
def CallsAt (W : World) (q : Option Addr) (n : Nat) (T : Nat → CallOf) : Prop := n = 0 ∨ ∃ B o, q = some ⟨B, o, none⟩ ∧ B < W.heap.size ∧ ∀ i, i < n → (∀ k, k < 5 → W.cell? ⟨B, o + (5 * i + k), none⟩ = (T i).cells[k]?) ∧ CallOk W (T i)
theorem CallOk.below {W W' : World} {c : CallOf} (h : CallOk W c) (hb : Below W.heap.size W W') : CallOk W' c := ⟨h.k1, h.k2, h.k3, h.lt, h.bytes.below hb, h.keep.below hb, h.ok⟩
theorem CallsAt.below {W W' : World} {q : Option Addr} {n : Nat} {T : Nat → CallOf} (h : CallsAt W q n T) (hb : Below W.heap.size W W') : CallsAt W' q n T := by
  rcases h with h | ⟨B, o, rfl, hB, hc⟩
  · exact .inl h
  · exact .inr ⟨B, o, rfl, Nat.lt_of_lt_of_le hB hb.size, fun i hi => ⟨fun k hk => (hb.cell (p := ⟨B, o + (5 * i + k), none⟩) hB).trans ((hc i hi).1 k hk), (hc i hi).2.below hb⟩⟩
/-! ### How much a reading holds -/
def sumN (f : Nat → Nat) : Nat → Nat
  | 0 => 0
  | k + 1 => sumN f k + f k
theorem sumN_le {f : Nat → Nat} {k n : Nat} (h : k ≤ n) : sumN f k ≤ sumN f n := by
  induction n with
  | zero => obtain rfl : k = 0 := by omega
            exact Nat.le_refl _
  | succ n ih =>
    by_cases e : k = n + 1
    · subst e; exact Nat.le_refl _
    · have := ih (by omega)
      show sumN f k ≤ sumN f n + f n
      omega
theorem bulk_pos {H : Type} (d : DataW H) : 1 ≤ Rows.uptoBulk d := by
  cases d with
  | lit l => cases l <;> simp [Rows.uptoBulk]
  | _ => simp [Rows.uptoBulk]
theorem bulk_append {H : Type} (l m : List (DataW H)) : Rows.uptoBulkAll (l ++ m) = Rows.uptoBulkAll l + Rows.uptoBulkAll m := by
  induction l with
  | nil => simp [Rows.uptoBulkAll]
  | cons a l ih => simp only [List.cons_append, Rows.uptoBulkAll, ih]; omega
theorem bulk_range {H : Type} {D : Nat → DataW H} {f : Nat → Nat} (n : Nat) (h : ∀ i, i < n → f i ≤ Rows.uptoBulk (D i)) : sumN f n ≤ Rows.uptoBulkAll ((List.range n).map D) := by
  induction n with
  | zero => exact Nat.zero_le _
  | succ n ih =>
    have h1 := ih fun i hi => h i (by omega)
    have h2 := h n (by omega)
    rw [List.range_succ, List.map_append, bulk_append]
    simp only [List.map_cons, List.map_nil, Rows.uptoBulkAll]
    show sumN f n + f n ≤ _
    omega
theorem sumN_one (n : Nat) : sumN (fun _ => 1) n = n := by
  induction n with
  | zero => rfl
  | succ n ih => show sumN (fun _ => 1) n + 1 = n + 1; rw [ih]
theorem bulk_slice1 {H : Type} {enc : TypeId × Value → H} {P : Program} {W : World} {base fuel : Nat} {spare : Nat → Bool} {held : Bool} {t e : TypeId} {q : Option Addr} {n cap : Nat} {x : DataW H × List MemPlace} (ht : P.underlying t = some (.slice e)) (ck : P.cellsOf e = 1)
    (h : DataW.trod enc P W base spare held fuel t [.slice q n cap] = some x) : n + 1 ≤ Rows.uptoBulk x.1 := by
  rcases Deep.open_slice1 ht ck h with ⟨e, rfl⟩ | ⟨a, len, cap', m, k, V, D, Pl, e, hb, hl, hm, hmm, rfl, hx⟩
  · simp only [List.cons.injEq, and_true] at e
    cases e
    exact bulk_pos _
  · simp only [List.cons.injEq, and_true] at e
    cases e
    have := bulk_range (f := fun _ => 1) n (fun i _ => bulk_pos (D i))
    rw [sumN_one] at this
    simp only [Rows.uptoBulk]
    omega
theorem trod_agg5 {H : Type} {enc : TypeId × Value → H} {P : Program} {w : World} {base : Nat} {spare : Nat → Bool} {held : Bool} {t : TypeId} {f0 f1 f2 f3 f4 : Field} {fuel : Nat} {cs : List Value} {x : DataW H × List MemPlace} (ht : P.underlying t = some (.struct #[f0, f1, f2, f3, f4])) (h : DataW.trod enc P w base spare held fuel t cs = some x) :
    ∃ y0 y1 y2 y3 y4 n, cs.length = P.cellsOf t ∧ DataW.trod enc P w base spare held n f0.type ((cs.drop f0.offset).take (P.cellsOf f0.type)) = some y0 ∧
      DataW.trod enc P w base spare held n f1.type ((cs.drop f1.offset).take (P.cellsOf f1.type)) = some y1 ∧ DataW.trod enc P w base spare held n f2.type ((cs.drop f2.offset).take (P.cellsOf f2.type)) = some y2 ∧
      DataW.trod enc P w base spare held n f3.type ((cs.drop f3.offset).take (P.cellsOf f3.type)) = some y3 ∧ DataW.trod enc P w base spare held n f4.type ((cs.drop f4.offset).take (P.cellsOf f4.type)) = some y4 ∧
      Rows.uptoBulk y3.1 + Rows.uptoBulk y4.1 ≤ Rows.uptoBulk x.1 := by
  obtain ⟨xs, n, _, rfl, hl, hlen, hf⟩ := DataW.trod_struct ht h
  match xs, hlen with
  | [y0, y1, y2, y3, y4], _ => exact ⟨y0, y1, y2, y3, y4, n, hl, by simpa using hf 0 f0 rfl, by simpa using hf 1 f1 rfl, by simpa using hf 2 f2 rfl, by simpa using hf 3 f3 rfl, by simpa using hf 4 f4 rfl, by simp only [List.map_cons, List.map_nil, Rows.uptoBulk, Rows.uptoBulkAll]; omega⟩
set_option maxRecDepth 100000 in
theorem open_call {H : Type} {enc : TypeId × Value → H} {W : World} {base fuel : Nat} {spare : Nat → Bool} {held : Bool} {cs : List Value} {x : DataW H × List MemPlace} (h : DataW.trod enc Try.prog W base spare held fuel 37 cs = some x) : ∃ c : CallOf, cs = c.cells ∧ CallOk W c ∧ 1 + c.bytes.n + c.kl.length ≤ Rows.uptoBulk x.1 := by
  obtain ⟨y0, y1, y2, y3, y4, n, hl, t0, t1, t2, t3, t4, hbk⟩ := trod_agg5 Try.underlying37 h
  have hsz : Try.prog.cellsOf 37 = 5 := by kernel_rfl
  have k1 : Try.prog.cellsOf 35 = 1 := by kernel_rfl
  have k2 : Try.prog.cellsOf 3 = 1 := by kernel_rfl
  have k3 : Try.prog.cellsOf 34 = 1 := by kernel_rfl
  rw [hsz] at hl
  simp only [k1, k2, k3] at t0 t1 t2 t3 t4
  obtain ⟨z0, e0, _, w0⟩ := DataW.trod_int Try.underlying3 t0
  obtain ⟨z1, e1, _, w1⟩ := DataW.trod_int Try.underlying3 t1
  obtain ⟨z2, e2, _, w2⟩ := DataW.trod_int Try.underlying3 t2
  obtain ⟨q3, n3, c3, g3, e3, _, l3, b3, _⟩ := open_cell t3
  obtain ⟨q4, l4, c4, e4, r4, x4⟩ := open_ints_cell t4
  rw [e3] at t3
  rw [e4] at t4
  have b1 := bulk_slice1 Try.underlying34 (by kernel_rfl) t3
  have b2 := bulk_slice1 Try.underlying35 (by kernel_rfl) t4
  exact ⟨⟨z0, z1, z2, ⟨q3, n3, c3, g3⟩, q4, l4, c4⟩, five_cells hl e0 e1 e2 e3 e4, ⟨w0, w1, w2, l3, b3, x4, r4⟩, by show 1 + n3 + l4.length ≤ _; omega⟩
set_option maxRecDepth 100000 in
theorem open_calls {H : Type} {enc : TypeId × Value → H} {W : World} {r : Reach} {b0 base : Nat} {spare : Nat → Bool} {held : Bool} {v : Value} {d : DataW H} {p : List MemPlace}
    (hv : Value.okWide Try.prog W r b0 22 v) (h : DataW.Trod enc Try.prog W base spare held 22 v d p) : ∃ (q : Option Addr) (n : Nat) (cap : Nat) (T : Nat → CallOf), v = .slice q n cap ∧ CallsAt W q n T ∧ sumN (fun i => 1 + (T i).bytes.n + (T i).kl.length) n ≤ Rows.uptoBulk d := by
  obtain ⟨q, n, cap, rfl⟩ := okWide_slice Try.underlying22 hv
  obtain ⟨fuel, hf⟩ := h
  have ht : Try.prog.underlying 22 = some (.slice 37) := Try.underlying22
  have ck : Try.prog.cellsOf 37 = 5 := by kernel_rfl
  have hd : (Value.cells (.slice q n cap)).toList = [.slice q n cap] := rfl
  rw [hd] at hf
  have T0 : CallOf := ⟨0, 0, 0, ⟨none, 0, 0, fun _ => 0⟩, none, [], 0⟩
  rcases Deep.open_slice ht hf with ⟨e, _⟩ | ⟨a, len, cap', m, k, D, Pl, e, hb, hl, hm, hmm, hdx, hx⟩
  · simp only [List.cons.injEq, and_true] at e
    cases e
    exact ⟨none, 0, 0, fun _ => T0, rfl, .inl rfl, Nat.zero_le _⟩
  · simp only [List.cons.injEq, and_true] at e
    cases e
    by_cases h0 : n = 0
    · subst h0
      exact ⟨some a, 0, cap, fun _ => T0, rfl, .inl rfl, Nat.zero_le _⟩
    · have hnm : n ≤ m := by rw [hmm]; split <;> omega
      obtain ⟨B, o, spot⟩ := a
      have hspot : spot = none := by
        obtain ⟨cs, h1, h2⟩ := hx 0 (by omega)
        obtain ⟨T, rfl, hT, _⟩ := open_call h2
        rw [ck] at h1
        have h3 := (World.cells?_some h1).2.2 0 (by omega)
        have h4 : W.cell? (((⟨B, o, spot⟩ : Addr).add (0 * 5)).add 0) = some (.int .i64 T.kind) := by simpa [CallOf.cells] using h3
        have := World.cell?_spot h4
        cases spot with
        | none => rfl
        | some s => simp [Addr.add] at this
      subst hspot
      have each : ∀ i, i < n → ∃ T : CallOf, (∀ j, j < 5 → W.cell? ⟨B, o + (i * 5 + j), none⟩ = T.cells[j]?) ∧ CallOk W T ∧ 1 + T.bytes.n + T.kl.length ≤ Rows.uptoBulk (D i) := fun i hi => by
        obtain ⟨cs, h1, h2⟩ := hx i (by omega)
        obtain ⟨T, rfl, hT⟩ := open_call h2
        rw [ck] at h1
        refine ⟨T, fun j hj => ?_, hT⟩
        have h3 := (World.cells?_some h1).2.2 j hj
        rw [add_plain, add_plain, Nat.add_assoc] at h3
        exact h3
      obtain ⟨T1, hx0, _⟩ := each 0 (by omega)
      have hx00 : W.cell? ⟨B, o + (0 * 5 + 0), none⟩ = some (.int .i64 T1.kind) := hx0 0 (by omega)
      have ch : ∀ i, ∃ T : CallOf, i < n → (∀ j, j < 5 → W.cell? ⟨B, o + (i * 5 + j), none⟩ = T.cells[j]?) ∧ CallOk W T ∧ 1 + T.bytes.n + T.kl.length ≤ Rows.uptoBulk (D i) := fun i => by
        by_cases hi : i < n
        · obtain ⟨T, hT⟩ := each i hi; exact ⟨T, fun _ => hT⟩
        · exact ⟨T0, fun h => absurd h hi⟩
      exact ⟨some ⟨B, o, none⟩, n, cap, fun i => Classical.choose (ch i), rfl, .inr ⟨B, o, rfl, block_lt_of_cell hx00, fun i hi => by
        obtain ⟨h1, h2, _⟩ := Classical.choose_spec (ch i) hi
        exact ⟨fun k hk => by rw [Nat.mul_comm 5 i]; exact h1 k hk, h2⟩⟩, by
        have e1 : d = .slice ((List.range n).map D) ((List.range (m - n)).map fun j => D (n + j)) := by injection hdx
        rw [e1]
        have := bulk_range (f := fun i => 1 + (Classical.choose (ch i)).bytes.n + (Classical.choose (ch i)).kl.length) n (fun i hi => (Classical.choose_spec (ch i) hi).2.2)
        simp only [Rows.uptoBulk]
        omega⟩
end Go.Proofs.Ytbejfpdkfpgipaa

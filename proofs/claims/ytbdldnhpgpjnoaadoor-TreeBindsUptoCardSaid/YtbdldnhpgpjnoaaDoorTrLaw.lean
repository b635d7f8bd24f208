/- What the statements TreeHolds, TreeBinds and TreeOthers share: sixteen leaves of any bytes, a struct in a box, a block's number of any integer. Conditions: as each says. -/
import Derived.Test.YtbdldnhpgpjnoaaDoorTrSt
import Derived.Test.YtbdldnhpgpjnoaaDoorTrFields
namespace Go.Proofs.YtbdldnhpgpjnoaaDoor
open Go.ChangeShapes Go.WideShapes Go.ChangeAt Go.RowKit
set_option linter.unusedVariables false
/-- Sixteen leaves: the bytes' tags, noughts behind them. -/
def leavesL (n : Nat) (g : Nat → Nat) : List (List Int) := (sumsL n g ++ List.replicate 16 nought).take 16
theorem leavesL_len (n : Nat) (g : Nat → Nat) : (leavesL n g).length = 16 := by unfold leavesL; rw [List.length_take, List.length_append, List.length_replicate]; omega
theorem leavesL_sum {n : Nat} {g : Nat → Nat} (h : ∀ i, i < n → g i < 256) : ∀ t ∈ leavesL n g, IsSum t := fun t ht => by
  rcases List.mem_append.1 (List.mem_of_mem_take ht) with h1 | h1
  · exact sumsL_sum h t h1
  · rw [List.eq_of_mem_replicate h1]; exact nought_sum
/-- What is left when noughts are put behind the tags, and sixteen taken. -/
theorem leaves_at {w : World} {base top : Nat} {v : Value} {n : Nat} {g : Nat → Nat} (h : OwnL 27 32 sumC w base top v (sumsL n g ++ List.replicate 16 [])) : ∃ B c, v = .slice (some ⟨B, 0, none⟩) (n + 16) c ∧ 16 ≤ c ∧ base ≤ B ∧ B < top ∧ SumsB w B (leavesL n g) := by
  have hlen : (sumsL n g ++ List.replicate 16 ([] : List Int)).length = n + 16 := by rw [List.length_append, sumsL_len, List.length_replicate]
  obtain ⟨x, m, hl⟩ : ∃ x m, sumsL n g ++ List.replicate 16 ([] : List Int) = x :: m := by
    cases hh : sumsL n g ++ List.replicate 16 ([] : List Int) with
    | nil => rw [hh] at hlen; simp at hlen
    | cons x m => exact ⟨x, m, rfl⟩
  rw [hl] at h hlen
  obtain ⟨B, c, rfl, hc, h1, h2, hs⟩ := h.sums
  rw [hlen] at hc ⊢
  rw [← hl] at hs
  exact ⟨B, c, rfl, by omega, h1, h2, (rows_noughts hs).take⟩
section
variable {o : Oper} {a : Act} {C : World → Prop} {K : Act → Prop}
theorem gives_boundfield (x : Operand) (k : Nat) (ho : o.op = .fieldAddr 57 x k) (hk5 : k < 5) (O : Nat) (hx : a.eval x = .pointer (some ⟨O, 0, none⟩)) (hk : K (a.put o.dst (.pointer (some ⟨O, k, none⟩)))) : ∃ v, Gives Tryd.prog C o a v ∧ K (a.put o.dst v) :=
  ⟨_, fun w _ => by
    unfold execOp
    simp only [ho, hx]
    rcases k with _ | _ | _ | _ | _ | k
    all_goals first | (exfalso; omega) | simp [go_sem, addr_add], hk⟩
end
theorem box_u8 (w : World) : (isAgg 5).run Tryd.prog w = .ok false w := by simp [go_sem]
/-- A struct's cells in a box. -/
structure BoundAt (W : World) (S : Nat) (q0 : Option Addr) (n0 c0 : Nat) (q1 : Option Addr) (n1 c1 : Nat) (q2 : Option Addr) (n2 c2 : Nat) (z : Int) (b : Nat) : Prop where
  k : W.cell? ⟨S, 0, none⟩ = some (.slice q0 n0 c0)
  l : W.cell? ⟨S, 1, none⟩ = some (.slice q1 n1 c1)
  t : W.cell? ⟨S, 2, none⟩ = some (.slice q2 n2 c2)
  i : W.cell? ⟨S, 3, none⟩ = some (.int .i64 z)
  o : W.cell? ⟨S, 4, none⟩ = some (.int .u8 b)
theorem BoundAt.below {W W' : World} {S M : Nat} {q0 : Option Addr} {n0 c0 : Nat} {q1 : Option Addr} {n1 c1 : Nat} {q2 : Option Addr} {n2 c2 : Nat} {z : Int} {b : Nat} (h : BoundAt W S q0 n0 c0 q1 n1 c1 q2 n2 c2 z b) (hb : Below M W W') (hS : S < M) : BoundAt W' S q0 n0 c0 q1 n1 c1 q2 n2 c2 z b :=
  ⟨(hb.cell (p := ⟨S, 0, none⟩) hS).trans h.k, (hb.cell (p := ⟨S, 1, none⟩) hS).trans h.l, (hb.cell (p := ⟨S, 2, none⟩) hS).trans h.t, (hb.cell (p := ⟨S, 3, none⟩) hS).trans h.i, (hb.cell (p := ⟨S, 4, none⟩) hS).trans h.o⟩
theorem BoundAt.of {W : World} {S : Nat} {q0 : Option Addr} {n0 c0 : Nat} {q1 : Option Addr} {n1 c1 : Nat} {q2 : Option Addr} {n2 c2 : Nat} {z : Int} {b : Nat} (h : ∀ i v, ([.slice q0 n0 c0, .slice q1 n1 c1, .slice q2 n2 c2, .int .i64 z, .int .u8 b] : List Value)[i]? = some v → W.cell? ⟨S, i, none⟩ = some v) : BoundAt W S q0 n0 c0 q1 n1 c1 q2 n2 c2 z b :=
  ⟨h 0 _ rfl, h 1 _ rfl, h 2 _ rfl, h 3 _ rfl, h 4 _ rfl⟩
/-- What stands while the leaves and the tree lie there. -/
structure HSt (w : World) (Bl Bt : Nat) (L T : List (List Int)) (V : World) : Prop where
  b : Below w.heap.size w V
  l : SumsB V Bl L
  t : SumsB V Bt T
  s : w.heap.size ≤ Bl
  lt : Bl < Bt
theorem HSt.on {w : World} {Bl Bt : Nat} {L T : List (List Int)} {V V' : World} (h : HSt w Bl Bt L T V) (hb : Below V.heap.size V V') : HSt w Bl Bt L T V' := ⟨h.b.trans (hb.mono h.b.size), h.l.below hb, h.t.below hb, h.s, h.lt⟩
/-- A leaf is set. -/
theorem HSt.put {w : World} {Bl Bt : Nat} {L L' T : List (List Int)} {V V' : World} (h : HSt w Bl Bt L T V) (hl : SumsB V' Bl L') (hb : But Bl V V') : HSt w Bl Bt L' T V' := ⟨h.b.trans (hb.below h.s h.b.size), hl, h.t.but hb (by have := h.lt; omega), h.s, h.lt⟩
theorem sumsL_one (b : Nat) : sumsL 1 (fun _ => b) = [sumOf b] := rfl
theorem sums_one {w : World} {base top : Nat} {v : Value} {b : Nat} (h : OwnL 27 32 sumC w base top v (sumsL 1 fun _ => b)) : ∃ B c, v = .slice (some ⟨B, 0, none⟩) 1 c ∧ SumsB w B [sumOf b] := by
  rw [sumsL_one] at h
  obtain ⟨B, c, rfl, -, -, -, hs⟩ := h.sums
  exact ⟨B, c, rfl, hs⟩
theorem block_num (z : Int) : ∃ u k : Nat, IntKind.u64.wrap z = (u : Int) ∧ (u : Int) % 16 = (k : Int) ∧ k < 16 := by
  obtain ⟨u, hu⟩ : ∃ u : Nat, IntKind.u64.wrap z = (u : Int) := by
    rw [IntKind.wrap_u64]; exact ⟨(z % 18446744073709551616).toNat, by omega⟩
  exact ⟨u, u % 16, hu, by omega, Nat.mod_lt _ (by decide)⟩
theorem one_bytes (w : World) (b : Nat) : BytesAt (w.alloc (.cells #[.int .u8 b] 5)) (some ⟨w.heap.size, 0, none⟩) 1 (fun _ => b) :=
  .inr ⟨w.heap.size, 0, rfl, by simp, fun j hj => by
    obtain rfl : j = 0 := by omega
    rw [cell_of_row _ _ _ _ _ _ (heap_alloc_new w (.cells #[.int .u8 b] 5))]; rfl⟩
theorem leaves_set_sum {L : List (List Int)} (h : ∀ t ∈ L, IsSum t) {o : List Int} (ho : IsSum o) (k : Nat) : ∀ t ∈ L.set k o, IsSum t := fun t ht => by
  rcases List.mem_or_eq_of_mem_set ht with h1 | h1
  · exact h t h1
  · rw [h1]; exact ho
/-- A leaf of a tree that was built comes to the root. -/
theorem built_root {n : Nat} {g : Nat → Nat} {m : List (List Int)} {b : Nat} (hb : b < 16) : climbF (nodeN n g) (tagAt (treeL n g m)) b (tagAt m b) 4 = tagAt (treeL n g m) 1 := by rw [climb_built hb 4 (by omega), pn_one hb]
end Go.Proofs.YtbdldnhpgpjnoaaDoor

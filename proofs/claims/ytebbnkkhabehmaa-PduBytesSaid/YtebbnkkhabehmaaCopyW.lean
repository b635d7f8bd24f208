/- The contracts of citadelnum's Copy and Kept for rows of any length that a machine holds: a copy is a row of its own with two marks behind; Kept sees that it says the same. Condition: at most 2^47 - 4096 bytes. -/
import Derived.Test.YtebbnkkhabehmaaWdBase
namespace Go.Proofs.Ytebbnkkhabehmaa
open Go.ChangeShapes Go.WideShapes Go.ChangeAt Go.RowKit
set_option linter.unusedVariables false

theorem row_owns {w' : World} {base m D : Nat} {f : Nat → Nat} (h : w'.ownsRow base 5 1 (.slice (some ⟨D, 0, none⟩) m m) m (bytesList m f)) : IntBlk w' D .u8 5 (mk m f) := by
  obtain ⟨_, ⟨h1, _⟩ | ⟨g, c, cur, h1, _, hg, hnc, _, hsz, ht⟩⟩ := h
  · cases h1
  · simp only [Value.slice.injEq, Option.some.injEq, Addr.mk.injEq, and_true, true_and] at h1
    obtain ⟨rfl, rfl⟩ := h1
    have hc : cur = cellsOf .u8 (mk m f) := by
      apply Array.ext'
      have hl : cur.toList.length = m := by simpa using hsz
      rw [Nat.mul_one] at ht
      rw [List.take_of_length_le (by omega)] at ht
      rw [ht]
      unfold bytesList cellsOf mk
      simp
    rw [hc] at hg
    exact hg
section
variable {ops : Array Oper} {rest : List Oper} {o : Oper} {a : Act} {w : World} {Q : Exit → Act → World → Prop}
theorem wpList_make_wide (hgd : o.guard = none) (x y : Operand) (ho : o.op = .makeSlice 22 x y) (m : Nat) (hm : m ≤ 140737488355328) (hx : a.eval x = .int .i64 0) (hy : a.eval y = .int .i64 m)
    (h : ∀ w', w'.ownsRow w.heap.size 5 1 (.slice (some ⟨w.heap.size, 0, none⟩) 0 m) 0 [] → w.grownBy w' none → wpList Try.prog ops Q rest (a.put o.dst (.slice (some ⟨w.heap.size, 0, none⟩) 0 m)) w') : wpList Try.prog ops Q (o :: rest) a w := by
  have hi := byteInfo
  have hz := byteZero1
  have hb := byteBytes1
  cases hq : Try.prog.info? 5 with
  | none => rw [hq] at hi; simp at hi
  | some i =>
    rw [hq] at hi hz hb
    have hsz : i.size = 1 := by simpa using hi
    have hzz : i.zero = some (.int .u8 0) := by simpa using hz
    have hby : i.bytes = 1 := by simpa using hb
    exact wpList_make_own w hgd x y 22 ho w.heap.size 5 i (.int .u8 0) 1 bytesUnder hq hzz hsz .i64 .i64 m m hx hy rfl (by rw [hby]; omega) (by simp only [maxLen]; omega) (Nat.le_refl _) h
end
section
attribute [local irreducible] markF bytesList
set_option maxRecDepth 100000 in
set_option maxHeartbeats 1000000 in
theorem Copy_row (p : Option Addr) (n cap : Nat) (g : Nat → Nat) (hn : n ≤ 140737488351232) (w : World) (hp : BytesAt w p n g) :
    Calls Try.prog 10 #[.slice p n cap] w fun e w' => e = .returned (.slice (some ⟨w.heap.size, 0, none⟩) n (n + 2)) ∧ IntBlk w' w.heap.size .u8 5 (mk (n + 2) (markF n g)) ∧ Below w.heap.size w w' := by
  obtain ⟨m, hm⟩ : ∃ m, m = n + 2 := ⟨_, rfl⟩
  have q1 : IntKind.i64.wrap ((n : Int) + 2) = (m : Int) := by rw [IntWalk.i64_in _ (by omega)]; omega
  have q2 : m ≤ 140737488355328 := by omega
  have q3 : n ≤ m := by omega
  have q4 : (n : Int) ≤ (m : Int) := by omega
  have q5 : n + 2 ≤ m := by omega
  have q6 : 0 + n ≤ m := by omega
  have HM := Lib.hid hm
  have HP := Lib.hid hp
  rw [← hm]
  clear hm hp
  go_enter Try.func10, Try.ntmps10
  go_wp2_with (first
    | (refine wpList_make_wide rfl _ _ rfl m q2 rfl rfl ?_; intro w1 o1 g1)
    | (refine wpList_append_bytes rfl (.tmp 6) (.tmp 7) rfl w.heap.size w.heap.size m 0 [] rfl o1 p n cap rfl g (HP.out.below (below_own g1 (fun B e => by cases e) (Nat.le_refl _))) q6 ?_; intro w2 o2 g2; simp only [Nat.zero_add, List.nil_append] at o2 ⊢)
    | (refine wpList_marks rfl rfl ?_)
    | (refine wpList_append_bytes rfl (.tmp 8) (.tmp 9) rfl w.heap.size w.heap.size m n (bytesList n g) rfl (owns_same o2 (Below.heap_alloc _ _ _ (owns_lt o2))) _ 2 2 rfl _ (marks_at w2) q5 ?_; intro w3 o3 g3)
    | fail)
  have s1 := g1.size
  have s2 := g2.size
  have b1 : Below w.heap.size w w1 := below_own g1 (fun B e => by cases e) (Nat.le_refl _)
  have b2 : Below w.heap.size w1 w2 := below_own g2 (fun B e => by cases e; exact Nat.le_refl _) s1
  have b3 : Below w.heap.size _ w3 := below_own g3 (fun B e => by cases e; exact Nat.le_refl _) (by rw [World.size_alloc]; omega)
  have bb : Below w.heap.size w w3 := ((b1.trans b2).alloc (by omega) _).trans b3
  rw [marked, ← HM.out] at o3
  go_ret
  exact ⟨rfl, row_owns o3, bb⟩

set_option maxRecDepth 100000 in
set_option maxHeartbeats 1000000 in
theorem Kept_row (p : Option Addr) (n cap D : Nat) (g : Nat → Nat) (hn : n ≤ 140737488351232) (w : World) (hp : BytesAt w p n g) (hD : IntBlk w D .u8 5 (mk (n + 2) (markF n g))) :
    Calls Try.prog 14 #[.slice (some ⟨D, 0, none⟩) n (n + 2), .slice p n cap] w fun e w' => e = .returned (.bool true) ∧ w = w' := by
  have hd : BytesAt w (some ⟨D, 0, none⟩) (n + 2) (markF n g) := .inr ⟨D, 0, rfl, hD.lt, fun j hj => by have := hD.cells (o := 0) (n := n + 2) (by omega) j hj; simp only [Nat.zero_add] at this ⊢; exact this⟩
  obtain ⟨m, hm⟩ : ∃ m, m = n + 2 := ⟨_, rfl⟩
  rw [← hm] at hd ⊢
  have q1 : IntKind.i64.wrap ((n : Int) + 2) = (m : Int) := by rw [IntWalk.i64_in _ (by omega)]; omega
  have q2 : IntKind.i64.wrap ((n : Int) + 1) = (n : Int) + 1 := by rw [IntWalk.i64_in _ (by omega)]
  have q3 : (n : Int) < (m : Int) := by omega
  have q4 : n < m := by omega
  have q5 : (n : Int) + 1 < (m : Int) := by omega
  have q6 : (0 : Int) ≤ (n : Int) + 1 := by omega
  have q7 : ((n : Int) + 1).toNat = n + 1 := by omega
  have q8 : n + 1 < m := by omega
  have c1 : w.cell? ⟨D, n, none⟩ = some (.int .u8 165) := by rw [hd.cell (j := n) q4]; simp [markF]
  have c2 : w.cell? ⟨D, n + 1, none⟩ = some (.int .u8 90) := by rw [hd.cell (j := n + 1) q8]; unfold markF; rw [if_neg (show ¬ (n + 1 < n) by omega), if_neg (show ¬ (n + 1 = n) by omega)]; rfl
  have HL := Lib.hid (hd.low hm)
  have HP := Lib.hid hp
  clear hm hp hd hD
  go_enter Try.func14, Try.ntmps14
  go_wp2_with (first
    | (refine wpList_string rfl (.tmp 6) rfl _ n m rfl g HL.out ?_)
    | (refine wpList_string rfl (.tmp 8) rfl p n cap rfl g HP.out ?_)
    | fail)
  go_ret
  exact ⟨rfl, rfl⟩
end
end Go.Proofs.Ytebbnkkhabehmaa

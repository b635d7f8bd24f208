/- The contracts of citadelnum's Copy and Kept: a copy holds the same bytes, with two marks behind; Kept sees that it does. Condition: at most 65536 bytes. -/
import Derived.Test.YtfjbehobpkmjbaaDoorStrS
namespace Go.Proofs.YtfjbehobpkmjbaaDoor
open Go.ChangeShapes Go.WideShapes Go.ChangeAt Go.RowKit

attribute [local irreducible] markF bytesList

set_option maxRecDepth 100000 in
set_option maxHeartbeats 1000000 in
theorem Copy_any (p : Option Addr) (n cap : Nat) (g : Nat → Nat) (hn : n ≤ 65536) (w : World) (hp : BytesAt w p n g) :
    Calls Tryd.prog 11 #[.slice p n cap] w fun e w' => ∃ D m, m = n + 2 ∧ e = .returned (.slice (some ⟨D, 0, none⟩) n m) ∧ BytesAt w' (some ⟨D, 0, none⟩) m (markF n g) ∧ Below w.heap.size w w' := by
  obtain ⟨m, hm⟩ : ∃ m, m = n + 2 := ⟨_, rfl⟩
  have q1 : IntKind.i64.wrap ((n : Int) + 2) = (m : Int) := by rw [IntWalk.i64_in _ (by omega)]; omega
  have q2 : m ≤ 100000 := by omega
  have q3 : n ≤ m := by omega
  have q4 : (n : Int) ≤ (m : Int) := by omega
  have q5 : n + 2 ≤ m := by omega
  have q6 : 0 + n ≤ m := by omega
  have HM := Lib.hid hm
  have HP := Lib.hid hp
  clear hm hp
  go_enter Tryd.func11, Tryd.ntmps11
  go_wp2_with (first
    | (refine wpList_make_bytes rfl _ _ rfl m q2 rfl rfl ?_; intro w1 o1 g1)
    | (refine wpList_append_bytes rfl (.tmp 6) (.tmp 7) rfl w.heap.size w.heap.size m 0 [] rfl o1 p n cap rfl g (HP.out.below (below_own g1 (fun B e => by cases e) (Nat.le_refl _))) q6 ?_; intro w2 o2 g2; simp only [Nat.zero_add, List.nil_append] at o2 ⊢)
    | (refine wpList_marks rfl rfl ?_)
    | (refine wpList_append_bytes rfl (.tmp 8) (.tmp 9) rfl w.heap.size w.heap.size m n (bytesList n g) rfl (owns_same o2 (Below.heap_alloc _ _ _ (owns_lt o2))) _ 2 2 rfl _ (marks_at w2) q5 ?_; intro w3 o3 g3)
    | fail)
  have s1 := g1.size
  have s2 := g2.size
  have b1 : Below w.heap.size w w1 := below_own g1 (fun B e => by cases e) (Nat.le_refl _)
  have b2 : Below w.heap.size w1 w2 := below_own g2 (fun B e => by cases e; exact Nat.le_refl _) s1
  have b3 : Below w.heap.size _ w3 := below_own g3 (fun B e => by cases e; exact Nat.le_refl _) (by rw [World.size_alloc]; omega)
  have bb : Below w.heap.size w w3 := ((b1.trans b2).alloc (by omega) _).trans b3
  rw [marked] at o3
  go_ret
  refine ⟨_, m, HM.out, rfl, ?_, bb⟩
  have := bytesAt_owns o3
  rwa [← HM.out] at this

set_option maxRecDepth 100000 in
set_option maxHeartbeats 1000000 in
theorem Kept_any (p : Option Addr) (n cap m D : Nat) (g : Nat → Nat) (hn : n ≤ 65536) (hm : m = n + 2) (w : World) (hp : BytesAt w p n g) (hd : BytesAt w (some ⟨D, 0, none⟩) m (markF n g)) :
    Calls Tryd.prog 15 #[.slice (some ⟨D, 0, none⟩) n m, .slice p n cap] w fun e w' => e = .returned (.bool true) ∧ w = w' := by
  have q1 : IntKind.i64.wrap ((n : Int) + 2) = (m : Int) := by rw [IntWalk.i64_in _ (by omega)]; omega
  have q2 : IntKind.i64.wrap ((n : Int) + 1) = (n : Int) + 1 := by rw [IntWalk.i64_in _ (by omega)]
  have q3 : (n : Int) < (m : Int) := by omega
  have q4 : n < m := by omega
  have q5 : (n : Int) + 1 < (m : Int) := by omega
  have q6 : (0 : Int) ≤ (n : Int) + 1 := by omega
  have q7 : ((n : Int) + 1).toNat = n + 1 := by omega
  have q8 : n + 1 < m := by omega
  have c1 : w.cell? ⟨D, n, none⟩ = some (.int .u8 165) := by rw [hd.cell (j := n) q4]; simp [markF]
  have c2 : w.cell? ⟨D, n + 1, none⟩ = some (.int .u8 90) := by rw [hd.cell (j := n + 1) q8]; unfold markF; rw [if_neg (show ¬ (n + 1 < n) by omega), if_neg (show ¬ (n + 1 = n) by omega)]; rfl
  have HL := Lib.hid (hd.low hm)
  have HP := Lib.hid hp
  clear hm hp hd
  go_enter Tryd.func15, Tryd.ntmps15
  go_wp2_with (first
    | (refine wpList_string rfl (.tmp 6) rfl _ n m rfl g HL.out ?_)
    | (refine wpList_string rfl (.tmp 8) rfl p n cap rfl g HP.out ?_)
    | fail)
  go_ret
  exact ⟨rfl, rfl⟩
end Go.Proofs.YtfjbehobpkmjbaaDoor

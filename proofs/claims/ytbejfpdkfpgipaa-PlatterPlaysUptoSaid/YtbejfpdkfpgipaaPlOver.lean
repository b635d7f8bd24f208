/- The contract of citadelnum's Over: it writes a row over, and nothing else. Condition: the row is one of bytes. -/
import Derived.Test.YtbejfpdkfpgipaaCopyW
import Derived.Test.YtbejfpdkfpgipaaPlBase
namespace Go.Proofs.Ytbejfpdkfpgipaa
open Go.ChangeShapes Go.WideShapes Go.ChangeAt Go.RowKit
set_option linter.unusedVariables false
set_option maxRecDepth 100000 in
theorem Over_row (D n m cap : Nat) (g : Nat → Nat) (hn : n ≤ m) (hm : m ≤ 140737488355328) (w : World) (h : IntBlk w D .u8 5 (mk m g)) :
    Calls Try.prog 26 #[.slice (some ⟨D, 0, none⟩) n cap] w fun e w' => e = .returned (.tuple #[]) ∧ But D w w' := by
  have H := Lib.hid h
  have HB := Lib.hid (But.of (B := D) (Below.refl w.heap.size w))
  have HN := Lib.hid (⟨hn, hm⟩ : n ≤ m ∧ m ≤ 140737488355328)
  clear h hn hm
  go_enter Try.func26, Try.ntmps26
  go_wp2
  go_loopw [5] (fun v5 wr => ∃ k : Nat, k ≤ n ∧ v5 = .int .i64 k ∧ (∃ l : List Int, l.length = m ∧ IntBlk wr D .u8 5 l) ∧ But D w wr) (fun v5 _ => n - (intOf v5).toNat)
  case atStart => exact ⟨0, Nat.zero_le _, rfl, ⟨_, mk_len _ _, H.out⟩, HB.out⟩
  case round =>
    obtain ⟨k, hk, rfl, ⟨l, hl, hb⟩, hbut⟩ := hrel
    have HL := Lib.hid hl
    have HQ := Lib.hid hbut
    by_cases hlt : k < n
    · have HLT := Lib.hid hlt
      have f1 : (k : Int) < (n : Int) := by omega
      have f2 : (0 : Int) ≤ k := by omega
      have f3 : IntKind.i64.wrap ((k : Int) + 1) = ((k + 1 : Nat) : Int) := by have := HN.out; rw [IntWalk.i64_in _ (by omega)]; omega
      have cl := hb.cell (i := k) (by have := HN.out; omega)
      have cf := hb.free k
      have HSET := Lib.hid (fun y => hb.set k y)
      clear hl hb hbut hlt H HB
      generalize l.getD k 0 = x at *
      generalize hy : bits .xor .u8 x 255 = y at *
      go_wp2
      go_roundw
      case rel => exact ⟨k + 1, HLT.out, by go_num, ⟨_, by rw [List.length_set]; exact HL.out, HSET.out _⟩, HQ.out.trans (But.setCell D k _ _)⟩
      case measure => have := HLT.out; simp [intOf]; omega
    · have f1 : ¬ (k : Int) < (n : Int) := by omega
      clear hl hb hbut hlt
      go_wp2
      go_end0
      exact ⟨rfl, HQ.out⟩
end Go.Proofs.Ytbejfpdkfpgipaa

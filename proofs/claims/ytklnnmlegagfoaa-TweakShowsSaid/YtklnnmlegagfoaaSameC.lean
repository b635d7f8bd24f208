/- The contract of citadelnum's Same at the same bytes. No condition. -/
import Derived.Test.YtklnnmlegagfoaaLawS
namespace Go.Proofs.Ytklnnmlegagfoaa
open Go.ChangeShapes Go.WideShapes Go.ChangeAt Go.RowKit

theorem bytes_congr {w : World} {p : Option Addr} {n : Nat} {g g' : Nat → Nat} (h : ∀ j, j < n → g j = g' j) (hp : BytesAt w p n g) : BytesAt w p n g' :=
  hp.imp id fun ⟨B, o, e, hl, hc⟩ => ⟨B, o, e, hl, fun i hi => by rw [← h i hi]; exact hc i hi⟩
set_option maxRecDepth 100000 in
set_option maxHeartbeats 400000 in
theorem Same_true (p : Option Addr) (n cap : Nat) (q : Option Addr) (c : Nat) (g g' : Nat → Nat) (h : ∀ j, j < n → g j = g' j) (w : World) (hp : BytesAt w p n g) (hq : BytesAt w q n g') :
    Calls Try.prog 26 #[.slice p n cap, .slice q n c] w fun e w' => e = .returned (.bool true) ∧ w = w' := by
  have hp' := bytes_congr h hp
  have HP := Lib.hid hp'
  have HQ := Lib.hid hq
  clear hp hp' hq
  go_enter Try.func26, Try.ntmps26
  go_wp2_with (first
    | (refine wpList_string rfl (.tmp 5) rfl p n cap rfl g' HP.out ?_)
    | (refine wpList_string rfl (.tmp 7) rfl q n c rfl g' HQ.out ?_))
  go_ret
  exact ⟨rfl, rfl⟩
end Go.Proofs.Ytklnnmlegagfoaa

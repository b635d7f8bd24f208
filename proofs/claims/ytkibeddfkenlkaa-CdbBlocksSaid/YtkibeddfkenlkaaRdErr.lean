/- RdErr: cut by mkrdbase.py: errors as numbers. Conditions: as each says. -/
import Derived.Test.YtkibeddfkenlkaaPlBase
namespace Go.Proofs.Ytkibeddfkenlkaa
open Go.ChangeShapes Go.WideShapes Go.ChangeAt Go.RowKit
set_option linter.unusedVariables false
theorem assert_key (v : Value) (w : World) : (Instr.typeAssert (.iface 38 v) 28 38 true).run Try.prog w = .ok (.tuple #[v, .bool true]) w := by
  simp [Instr.typeAssert, run_underlying Try.underlying38]
theorem Num_nil (w : World) : Calls Try.prog 23 #[.nilIface] w fun e w' => e = .returned (.int .i64 0) ∧ w = w' := by
  go_enter Try.func23, Try.ntmps23
  go_wp2
  go_ret
  exact ⟨rfl, rfl⟩
theorem Num_err (z : Int) (hz : (z == 0) = false) (w : World) : Calls Try.prog 23 #[.iface 38 (.int .i64 z)] w fun e w' => e = .returned (.int .i64 z) ∧ w = w' := by
  have ta := fun W => assert_key (.int .i64 z) W
  go_enter Try.func23, Try.ntmps23
  go_wp2
  go_ret
  exact ⟨rfl, rfl⟩
theorem Is_err (z : Int) (hz : (z == 0) = false) (w : World) : Calls Try.prog 14 #[.iface 38 (.int .i64 z), .int .i64 z] w fun e w' => e = .returned (.bool true) ∧ w = w' := by
  have NC := Lib.hid (fun W => Num_err z hz W)
  clear hz
  go_enter Try.func14, Try.ntmps14
  go_wp2_with (first
    | (go_at_call 23; refine (NC.out _).mono ?_; rintro e w1 ⟨rfl, rfl⟩))
  go_ret
  exact ⟨rfl, rfl⟩


end Go.Proofs.Ytkibeddfkenlkaa

/- RdErr: cut by mkrdbase.py: errors as numbers. Conditions: as each says. -/
import Derived.Test.YtdeojhcfbiekmaaDoorPlBase
namespace Go.Proofs.YtdeojhcfbiekmaaDoor
open Go.ChangeShapes Go.WideShapes Go.ChangeAt Go.RowKit
set_option linter.unusedVariables false
theorem assert_key (v : Value) (w : World) : (Instr.typeAssert (.iface 39 v) 27 39 true).run Tryd.prog w = .ok (.tuple #[v, .bool true]) w := by
  simp [Instr.typeAssert, run_underlying Tryd.underlying39]
theorem Num_nil (w : World) : Calls Tryd.prog 32 #[.nilIface] w fun e w' => e = .returned (.int .i64 0) ∧ w = w' := by
  go_enter Tryd.func32, Tryd.ntmps32
  go_wp2
  go_ret
  exact ⟨rfl, rfl⟩
theorem Num_err (z : Int) (hz : (z == 0) = false) (w : World) : Calls Tryd.prog 32 #[.iface 39 (.int .i64 z)] w fun e w' => e = .returned (.int .i64 z) ∧ w = w' := by
  have ta := fun W => assert_key (.int .i64 z) W
  go_enter Tryd.func32, Tryd.ntmps32
  go_wp2
  go_ret
  exact ⟨rfl, rfl⟩
theorem Is_err (z : Int) (hz : (z == 0) = false) (w : World) : Calls Tryd.prog 14 #[.iface 39 (.int .i64 z), .int .i64 z] w fun e w' => e = .returned (.bool true) ∧ w = w' := by
  have NC := Lib.hid (fun W => Num_err z hz W)
  clear hz
  go_enter Tryd.func14, Tryd.ntmps14
  go_wp2_with (first
    | (go_at_call 32; refine (NC.out _).mono ?_; rintro e w1 ⟨rfl, rfl⟩))
  go_ret
  exact ⟨rfl, rfl⟩


end Go.Proofs.YtdeojhcfbiekmaaDoor

/- RdErr: cut by mkrdbase.py: errors as numbers. Conditions: as each says. -/
import Derived.Test.YtebbnkkhabehmaaPlBase
namespace Go.Proofs.Ytebbnkkhabehmaa
open Go.ChangeShapes Go.WideShapes Go.ChangeAt Go.RowKit
set_option linter.unusedVariables false
theorem assert_key (v : Value) (w : World) : (Instr.typeAssert (.iface 35 v) 26 35 true).run Try.prog w = .ok (.tuple #[v, .bool true]) w := by
  simp [Instr.typeAssert, run_underlying Try.underlying35]
theorem Num_nil (w : World) : Calls Try.prog 27 #[.nilIface] w fun e w' => e = .returned (.int .i64 0) ∧ w = w' := by
  go_enter Try.func27, Try.ntmps27
  go_wp2
  go_ret
  exact ⟨rfl, rfl⟩
theorem Num_err (z : Int) (hz : (z == 0) = false) (w : World) : Calls Try.prog 27 #[.iface 35 (.int .i64 z)] w fun e w' => e = .returned (.int .i64 z) ∧ w = w' := by
  have ta := fun W => assert_key (.int .i64 z) W
  go_enter Try.func27, Try.ntmps27
  go_wp2
  go_ret
  exact ⟨rfl, rfl⟩
theorem Is_err (z : Int) (hz : (z == 0) = false) (w : World) : Calls Try.prog 13 #[.iface 35 (.int .i64 z), .int .i64 z] w fun e w' => e = .returned (.bool true) ∧ w = w' := by
  have NC := Lib.hid (fun W => Num_err z hz W)
  clear hz
  go_enter Try.func13, Try.ntmps13
  go_wp2_with (first
    | (go_at_call 27; refine (NC.out _).mono ?_; rintro e w1 ⟨rfl, rfl⟩))
  go_ret
  exact ⟨rfl, rfl⟩


end Go.Proofs.Ytebbnkkhabehmaa

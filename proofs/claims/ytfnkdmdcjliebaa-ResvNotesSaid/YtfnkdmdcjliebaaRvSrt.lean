/- The contracts of pdqsortCmpFunc and SortFunc over registrations that rise but for the last one. Conditions: at most five. -/
import Derived.Test.YtfnkdmdcjliebaaRvIns
namespace Go.Proofs.Ytfnkdmdcjliebaa
open Go.ChangeShapes Go.WideShapes Go.ChangeAt Go.RowKit
set_option linter.unusedVariables false
set_option linter.unusedSimpArgs false
attribute [local irreducible] regC cmpI insAt PB withL
attribute [local go_sem] Oper.semAt_some
set_option maxRecDepth 100000 in
set_option maxHeartbeats 4000000 in
theorem pdqCmp_any {w : World} {B n cap w0 : _} {ks : List (Int × Int)} {who key : Int} (hB : PB w B cap (ks ++ [(who, key)])) (hn : ks.length + 1 = n) (h5 : n ≤ 5) (hr : risesR ks w0 = true) (hne : ∀ p ∈ ks, p.1 ≠ who) (l : Int) :
    Calls Try.prog 78 #[.slice (some ⟨B, 0, none⟩) n cap, .int .i64 0, .int .i64 n, .int .i64 l, .func (.func 72) #[] #[]] w fun e w' => e = .returned (.tuple #[]) ∧ PB w' B cap (withL ks who key false) ∧ Keeps (fun j => j = B) w w' := by
  have HI := Lib.hid (insertionCmp_any hB hn h5 hr hne)
  have f1 : (n : Int) ≤ 12 := by omega
  have f2 : IntKind.i64.wrap (n : Int) = (n : Int) := by rw [IntWalk.i64_in _ (by omega)]
  clear hB hn h5 hr hne
  go_enter Try.func78, Try.ntmps78
  go_wp2
  go_loopw [1, 2] (fun v1 v2 wr => v1 = .int .i64 0 ∧ v2 = .int .i64 n ∧ wr = w) (fun _ _ _ => 0)
  case atStart => exact ⟨rfl, rfl, rfl⟩
  case round =>
    obtain ⟨rfl, rfl, rfl⟩ := hrel
    go_wp2_with (first
      | (go_at_call 92
         refine HI.out.mono ?_; rintro e w2 ⟨rfl, hp2, hb2⟩
         have P2 := Lib.hid hp2
         have B2 := Lib.hid hb2
         clear hb2 hp2))
    refine bodyPost_ret (results_none rfl _ _ _) rfl ?_
    exact ⟨rfl, P2.out, B2.out⟩
set_option maxRecDepth 100000 in
set_option maxHeartbeats 4000000 in
theorem SortFunc_any {w : World} {B n cap w0 : _} {ks : List (Int × Int)} {who key : Int} (hB : PB w B cap (ks ++ [(who, key)])) (hn : ks.length + 1 = n) (h5 : n ≤ 5) (hr : risesR ks w0 = true) (hne : ∀ p ∈ ks, p.1 ≠ who) :
    Calls Try.prog 71 #[.slice (some ⟨B, 0, none⟩) n cap, .func (.func 72) #[] #[]] w fun e w' => e = .returned (.tuple #[]) ∧ PB w' B cap (withL ks who key false) ∧ Keeps (fun j => j = B) w w' := by
  have HP := Lib.hid (fun l => pdqCmp_any hB hn h5 hr hne l)
  have HL := Lib.hid (Len_any h5)
  have f2 : IntKind.u64.wrap (n : Int) = (n : Int) := by simp [IntKind.wrap, IntKind.bits, IntKind.signed]; omega
  clear hB hn h5 hr hne
  go_enter Try.func71, Try.ntmps71
  go_wp2_with (first
    | (go_at_call 76
       refine (HL.out _).mono ?_; rintro e w2 ⟨⟨l, rfl⟩, rfl⟩)
    | (go_at_call 78
       refine (HP.out _).mono ?_; rintro e w2 ⟨rfl, hp2, hb2⟩
       have P2 := Lib.hid hp2
       have B2 := Lib.hid hb2
       clear hb2 hp2))
  go_end0
  exact ⟨rfl, P2.out, B2.out⟩
end Go.Proofs.Ytfnkdmdcjliebaa

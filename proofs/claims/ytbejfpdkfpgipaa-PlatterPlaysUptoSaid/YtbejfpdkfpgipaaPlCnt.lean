/- A map that counts integers, and the laws' comparison of two lists of integers. No condition. -/
import Derived.Test.YtbejfpdkfpgipaaPlAlive
import Derived.Test.YtbejfpdkfpgipaaPlArgs
import Derived.Test.YtbejfpdkfpgipaaPlErr
import Derived.Test.YtbejfpdkfpgipaaPlLopen
import Derived.Maps.OwnOps
namespace Go.Proofs.Ytbejfpdkfpgipaa
open Go.ChangeShapes Go.WideShapes Go.ChangeAt Go.RowKit Go.Maps
set_option linter.unusedVariables false
/-- A map of counts, none above k; on says which numbers were counted. -/
structure CntIs (D : DataW Value) (k : Nat) (on : Int → Prop) : Prop where
  has : ∀ x, ∃ c : Nat, c ≤ k ∧ D.atKey (.int .i64 x) (.lit (.int .i64 0)) = .lit (.int .i64 c) ∧ (0 < c ↔ on x)
def CntAt (w : World) (mb k : Nat) (on : Int → Prop) : Prop := ∃ D : DataW Value, w.ownsMap Try.prog 3 (plainElem Try.prog 3) mb k D ∧ CntIs D k on
theorem cnt_new (w : World) : CntAt (w.alloc (.map #[] 0)) w.heap.size 0 fun _ => False :=
  ⟨_, World.ownsMap_made w Try.prog 3 _, ⟨fun x => ⟨0, Nat.le_refl _, rfl, by simp⟩⟩⟩
theorem CntAt.keep {w w' : World} {mb k : Nat} {on : Int → Prop} (h : CntAt w mb k on) (hb : w'.heap[mb]? = w.heap[mb]?) : CntAt w' mb k on := by
  obtain ⟨D, h1, h2⟩ := h
  exact ⟨D, ownsMap_keep h1 hb, h2⟩
theorem CntAt.lt {w : World} {mb k : Nat} {on : Int → Prop} (h : CntAt w mb k on) : mb < w.heap.size := by obtain ⟨D, h1, _⟩ := h; exact h1.lt
theorem CntIs.put {D : DataW Value} {k : Nat} {on : Int → Prop} (h : CntIs D k on) (hD : Maps.IsMap D) (x : Int) {c : Nat} (hc : D.atKey (.int .i64 x) (.lit (.int .i64 0)) = .lit (.int .i64 c)) (on' : Int → Prop) (hx : on' x) (hy : ∀ y, y ≠ x → (on' y ↔ on y)) :
    CntIs (D.put (.int .i64 x) (.lit (.int .i64 ((c + 1 : Nat) : Int)))) (k + 1) on' := by
  refine ⟨fun y => ?_⟩
  obtain ⟨n, h1, h2, h3⟩ := h.has y
  by_cases e : y = x
  · subst e
    rw [hc] at h2
    have : (c : Int) = n := by injection h2 with h2; injection h2
    refine ⟨c + 1, by omega, Maps.atKey_put_same hD (by simp [WideAt.IsKeyLit]) _ _, by simp [hx]⟩
  · exact ⟨n, by omega, (Maps.atKey_put_other (lit_ne e) _ _).trans h2, h3.trans (hy y e).symm⟩
set_option maxRecDepth 100000 in
theorem Ints_eq (p q : Option Addr) (L : List Int) (c c' : Nat) (hL : L.length ≤ 1000000) (w : World) (hp : IntsAt w p L) (hq : IntsAt w q L) :
    Calls Try.prog 31 #[.slice p L.length c, .slice q L.length c'] w fun e w' => e = .returned (.bool true) ∧ Below w.heap.size w w' := by
  have HR := Lib.hid (Below.refl w.heap.size w)
  go_enter Try.func31, Try.ntmps31
  go_wp2
  go_loopw [13] (fun v13 wr => ∃ k : Nat, k ≤ L.length ∧ v13 = .int .i64 k ∧ Below w.heap.size w wr) (fun v13 _ => L.length - (intOf v13).toNat)
  case atStart => exact ⟨0, Nat.zero_le _, rfl, HR.out⟩
  case round =>
    obtain ⟨k, hk, rfl, hb⟩ := hrel
    have HB := Lib.hid hb
    by_cases hlt : k < L.length
    · rcases hp with he | ⟨B, o, rfl, hB, hc⟩
      · rw [he] at hlt; exact absurd hlt (Nat.not_lt_zero _)
      rcases hq with he | ⟨B', o', rfl, hB', hc'⟩
      · rw [he] at hlt; exact absurd hlt (Nat.not_lt_zero _)
      have cl := (hb.cell (p := ⟨B, o + k, none⟩) hB).trans (hc k hlt)
      have cl' := (hb.cell (p := ⟨B', o' + k, none⟩) hB').trans (hc' k hlt)
      have HLT := Lib.hid hlt
      have f1 : (k : Int) < (L.length : Int) := by omega
      have f2 : (0 : Int) ≤ k := by omega
      have f3 : IntKind.i64.wrap ((k : Int) + 1) = ((k + 1 : Nat) : Int) := by rw [IntWalk.i64_in _ (by omega)]; omega
      clear hc hc' hB hB' hlt hb HR
      generalize L.getD k 0 = x at *
      go_wp2
      go_region
      go_wp2
      go_roundw
      case rel => exact ⟨k + 1, HLT.out, by go_num, HB.out.drew⟩
      case measure => have := HLT.out; simp [intOf]; omega
    · have f1 : ¬ (k : Int) < (L.length : Int) := by omega
      go_wp2
      go_ret
      exact ⟨rfl, HB.out⟩
end Go.Proofs.Ytbejfpdkfpgipaa

/- Mathematics of slots: what is wrapped comes back, and what is unwrapped comes back; TakeSlot's other answers in one. Conditions: as each says. -/
import Derived.Test.YtghdeedglekphaaVsRef
namespace Go.Proofs.Ytghdeedglekphaa
open Go.ChangeShapes Go.WideShapes Go.ChangeAt Go.RowKit
set_option linter.unusedVariables false
theorem lay_out {n i p : Nat} (hi : i < n) (hp : 8 * n + 8 ≤ p) (S k : Nat → Nat) : lay S i k p = S p := by
  unfold lay
  rw [if_neg (by omega), if_neg (by omega)]
theorem wTo_out (R : Nat → Nat → Nat) (T : Nat) {n p : Nat} (hn : 0 < n) (hp : 8 * n + 8 ≤ p) (S : Nat → Nat) : ∀ s, wTo R T n S s p = S p
  | 0 => rfl
  | s + 1 => by rw [wTo_step]; unfold wS; rw [lay_out (Nat.mod_lt _ hn) hp]; exact wTo_out R T hn hp S s
theorem uTo_out (R : Nat → Nat → Nat) (T : Nat) {n p : Nat} (hn : 0 < n) (hp : 8 * n + 8 ≤ p) (S : Nat → Nat) : ∀ s, uTo R T n S s p = S p
  | 0 => rfl
  | s + 1 => by rw [uTo_step]; unfold uS; rw [lay_out (Nat.mod_lt _ hn) hp]; exact uTo_out R T hn hp S s
theorem wrpN_out (R : Nat → Nat → Nat) (T : Nat) (F : Nat → Nat) {p : Nat} (hp : 72 ≤ p) : wrpN R T 8 F p = F (p - 8) := by
  unfold wrpN
  rw [wTo_out R T (n := 8) (by decide) (by omega)]
  unfold ini; rw [if_neg (by omega)]
theorem unwN_out (R : Nat → Nat → Nat) (T : Nat) (S : Nat → Nat) {p : Nat} (hp : 72 ≤ p) : unwN R T 8 S p = S p := by
  unfold unwN
  rw [uTo_out R T (n := 8) (by decide) (by omega)]
theorem padF_at {n : Nat} {g : Nat → Nat} {j : Nat} (h : j < 128) : natF (padF n g) j = if j < n then g j else 0 := natF_mk h
theorem padF_out {n : Nat} {g : Nat → Nat} {j : Nat} (h : 128 ≤ j) : natF (padF n g) j = 0 := natF_out (by unfold padF; rw [mk_len]; exact h)
theorem slot_fun (R : Nat → Nat → Nat) (T : Nat) {U : List Int} (hU : IsU U) : natF (padF 72 (wrpN R T 8 (natF U))) = wrpN R T 8 (natF U) := funext fun j => by
  have h0 : 72 ≤ j → wrpN R T 8 (natF U) j = 0 := fun h => by rw [wrpN_out R T _ h]; exact natF_out (by rw [hU.1]; omega)
  by_cases h1 : j < 128
  · rw [padF_at h1]
    by_cases h2 : j < 72
    · rw [if_pos h2]
    · rw [if_neg h2, h0 (by omega)]
  · rw [padF_out (by omega), h0 (by omega)]
theorem padF_same (g : Nat → Nat) : padF 72 (natF (padF 72 g)) = padF 72 g := mk_ext fun j hj => by
  show (if j < 72 then natF (padF 72 g) j else 0) = if j < 72 then g j else 0
  by_cases h : j < 72
  · rw [if_pos h, if_pos h, padF_at hj, if_pos h]
  · rw [if_neg h, if_neg h]
section
variable {N : Nat} {g : Nat → Nat}
theorem keys_of (hg : ∀ i, i < 4 * N → g i < 256) : ∀ i, i < N + 7 → IsKey (rkS N g i) := fun i _ => rkS_key (fun i hi => hg i (by omega)) i
theorem slot_back (hg : ∀ i, i < 4 * N → g i < 256) {U : List Int} (hU : IsU U) : unwN (rkS N g) (N + 7) 8 (natF (padF 72 (wrpN (rkS N g) (N + 7) 8 (natF U)))) = ini (natF U) := by
  rw [slot_fun _ _ hU]
  exact unw_wrp (keys_of hg) (by decide) (fun p _ => natF_lt hU.2 p)
theorem slot_again (hg : ∀ i, i < 4 * N → g i < 256) {s : List Int} (hs : IsSec s) (hp : padF 72 (natF s) = s) (hsu : sure (unwN (rkS N g) (N + 7) 8 (natF s)) = true) :
    IsU (mk 64 (txt (unwN (rkS N g) (N + 7) 8 (natF s)))) ∧ padF 72 (wrpN (rkS N g) (N + 7) 8 (natF (mk 64 (txt (unwN (rkS N g) (N + 7) 8 (natF s)))))) = s := by
  have hz : ∀ j, 72 ≤ j → natF s j = 0 := fun j hj => by
    rw [← hp]
    by_cases h : j < 128
    · rw [padF_at h, if_neg (by omega)]
    · exact padF_out (by omega)
  have hrow : IsRow (8 * 8 + 8) (natF s) := fun p _ => natF_lt hs.2 p
  have hx := unwN_row (keys_of hg) (T := N + 7) (n := 8) (by decide) hrow
  refine ⟨isU_mk fun i hi => hx _ (by omega), ?_⟩
  have e : natF (mk 64 (txt (unwN (rkS N g) (N + 7) 8 (natF s)))) = txt (unwN (rkS N g) (N + 7) 8 (natF s)) := funext fun j => by
    by_cases h : j < 64
    · exact natF_mk h
    · rw [natF_out (by rw [mk_len]; omega)]
      unfold txt
      rw [unwN_out _ _ _ (by omega), hz _ (by omega)]
  rw [e, wrp_unw (keys_of hg) (by decide) hrow hsu]
  exact hp
end
theorem TakeSlot_bad (kp : Option Addr) (n kc : Nat) (h16 : n ≠ 16) (h32 : n ≠ 32) (s : List Int) (hs : IsSec s) (w : World) :
    Calls Try.prog 10 #[.slice kp n kc, secVal s] w fun e w' => e = .returned (.tuple #[keyV noKeys, .bool false]) ∧ Below w.heap.size w w' := by
  by_cases hp : padF 72 (natF s) = s
  · exact TakeSlot_key kp n kc h16 h32 s hs hp w
  · exact TakeSlot_pad kp n kc s hs hp w
theorem TakeSlot_not (kp : Option Addr) (n kc N : Nat) (g : Nat → Nat) (hn : n = 4 * N) (hN : N = 4 ∨ N = 8) (hcap : n ≤ kc) (hg : ∀ i, i < n → g i < 256) (s : List Int) (hs : IsSec s) (hno : ¬ (padF 72 (natF s) = s ∧ sure (unwN (rkS N g) (N + 7) 8 (natF s)) = true)) (w : World) (hk : BytesAt w kp n g) :
    Calls Try.prog 10 #[.slice kp n kc, secVal s] w fun e w' => e = .returned (.tuple #[keyV noKeys, .bool false]) ∧ Below w.heap.size w w' := by
  by_cases hp : padF 72 (natF s) = s
  · refine TakeSlot_unsure kp n kc N g hn hN hcap hg s hs hp ?_ w hk
    cases h : sure (unwN (rkS N g) (N + 7) 8 (natF s)) with
    | false => rfl
    | true => exact absurd ⟨hp, h⟩ hno
  · exact TakeSlot_pad kp n kc s hs hp w
theorem TakeSlot_back (kp : Option Addr) (n kc N : Nat) (g : Nat → Nat) (hn : n = 4 * N) (hN : N = 4 ∨ N = 8) (hcap : n ≤ kc) (hg : ∀ i, i < n → g i < 256) (U : List Int) (hU : IsU U) (w : World) (hk : BytesAt w kp n g) :
    Calls Try.prog 10 #[.slice kp n kc, secVal (padF 72 (wrpN (rkS N g) (N + 7) 8 (natF U)))] w fun e w' => e = .returned (.tuple #[keyV U, .bool true]) ∧ Below w.heap.size w w' := by
  have hg2 : ∀ i, i < 4 * N → g i < 256 := fun i hi => hg i (by omega)
  have hb := slot_back hg2 hU
  have hsec : IsSec (padF 72 (wrpN (rkS N g) (N + 7) 8 (natF U))) := padF_sec fun i hi => wrpN_row (keys_of hg2) (T := N + 7) (n := 8) (by decide) (fun p _ => natF_lt hU.2 p) i (by omega)
  have := TakeSlot_sure kp n kc N g hn hN hcap hg _ hsec (padF_same _) (by rw [hb]; exact sure_ini _) w hk
  rw [hb, txt_ini, hU.mk'] at this
  exact this
end Go.Proofs.Ytghdeedglekphaa

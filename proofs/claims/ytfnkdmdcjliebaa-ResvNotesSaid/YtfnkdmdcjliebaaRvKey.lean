/- The contracts of the program's keyOf, registered, isType, allHold, rising, heldInForm, Check. Conditions: the registrations lie in memory, at most 1000. -/
import Derived.Test.YtfnkdmdcjliebaaRvDoM
import Derived.Test.YtfnkdmdcjliebaaRvBox
import Derived.WalkMore
import Derived.BigQuiet
namespace Go.Proofs.Ytfnkdmdcjliebaa
open Go.ChangeShapes Go.WideShapes Go.ChangeAt Go.RowKit
set_option linter.unusedVariables false
set_option linter.unusedSimpArgs false
theorem inR_drop {ks : List (Int × Int)} {i : Nat} (hi : i < ks.length) (who : Int) : inR (ks.drop i) who = if (atR ks i).1 == who then true else inR (ks.drop (i + 1)) who := by
  rw [drop_consR hi]
  unfold inR
  rw [List.any_cons]
  cases ((atR ks i).1 == who) <;> rfl
theorem risesR_drop {ks : List (Int × Int)} {i : Nat} (hi : i < ks.length) (w : Int) : risesR (ks.drop i) w = (decide (w < (atR ks i).1) && decide (1 ≤ (atR ks i).2) && risesR (ks.drop (i + 1)) (atR ks i).1) := by
  rw [drop_consR hi]; rfl
section
variable {ops : Array Oper} {rest : List Oper} {o : Oper} {a : Act} {w : World} {Q : Exit → Act → World → Prop}
theorem wpList_reg_elemk (x y : Operand) (ho : o.op = .indexAddr rgS x y) (hw : Region.wanted o (yielded ops a.tmps) = true) (B off n cap k : Nat) (hx : a.eval x = .slice (some ⟨B, off, none⟩) n cap) (hy : a.eval y = .int .i64 k) (hk : k < n) (h : wpList Try.prog ops Q rest (a.put o.dst (.pointer (some ⟨B, off + 2 * k, none⟩))) w) : wpList Try.prog ops Q (o :: rest) a w :=
  wanted_step hw fun K hK => by
    unfold Oper.wp
    rw [reg_addr x y ho B off n cap k hx hy hk w]
    exact hK _ _ h
end
attribute [local irreducible] regC atR keyR inR risesR
attribute [local go_sem] Oper.semAt_some
set_option maxRecDepth 100000 in
set_option maxHeartbeats 2000000 in
theorem keyOf_any {w : World} {q : Option Addr} {n c : Nat} {ks : List (Int × Int)} (hq : RegsAt w q ks) (hn : ks.length = n) (hl : n ≤ 1000) (who : Int) :
    Calls Try.prog 49 #[.slice q n c, .int .i64 who] w fun e w' => e = .returned (.tuple #[.int .i64 (keyR ks who), .bool (inR ks who)]) ∧ w = w' := by
  have HR := Lib.hid (fun i (hi : i < ks.length) => regs_at hq (k := i) hi)
  have HK := Lib.hid (fun i (hi : i < ks.length) => keyR_drop hi who)
  have HI := Lib.hid (fun i (hi : i < ks.length) => inR_drop hi who)
  have HE := Lib.hid (show keyR (ks.drop n) who = 0 by rw [List.drop_of_length_le (by omega)]; unfold keyR; rfl)
  have HF := Lib.hid (show inR (ks.drop n) who = false by rw [List.drop_of_length_le (by omega)]; unfold inR; rfl)
  have H0 := Lib.hid (show keyR (ks.drop 0) who = keyR ks who by rw [List.drop_zero])
  have G0 := Lib.hid (show inR (ks.drop 0) who = inR ks who by rw [List.drop_zero])
  have HL := Lib.hid hl
  rw [hn] at HR HK HI
  clear hq hl hn
  go_enter Try.func49, Try.ntmps49
  go_wp2
  go_loopw [9, 6] (fun v9 _ wr => ∃ i : Nat, i ≤ n ∧ v9 = .int .i64 i ∧ keyR (ks.drop i) who = keyR ks who ∧ inR (ks.drop i) who = inR ks who ∧ wr = w) (fun v9 _ _ => n - (intOf v9).toNat)
  case atStart => exact ⟨0, Nat.zero_le _, rfl, H0.out, G0.out, rfl⟩
  case round =>
    obtain ⟨i, hi, rfl, hk, hj, rfl⟩ := hrel
    have HKE := Lib.hid hk
    have HJE := Lib.hid hj
    by_cases hlt : i < n
    · have f1 : (i : Int) < (n : Int) := by omega
      have HLT := Lib.hid hlt
      have f3 : IntKind.i64.wrap ((i : Int) + 1) = ((i + 1 : Nat) : Int) := by have := HL.out; rw [IntWalk.i64_in _ (by omega)]; omega
      obtain ⟨LB, o, rfl, hB, hrg⟩ := HR.out i hlt
      have e := HK.out i hlt
      have e2 := HI.out i hlt
      rw [HKE.out] at e
      rw [HJE.out] at e2
      have kd0 := reg_c0 hrg
      have kd1 := reg_c1 hrg
      clear hk hj hi hlt hrg hB
      generalize atR ks i = p at *
      cases g1 : (p.1 == who) with
      | true =>
        rw [if_pos g1] at e e2
        have HE2 := Lib.hid e
        have HE3 := Lib.hid e2
        clear e e2
        go_wp2_with (first
          | (refine wpList_reg_elem rfl _ _ rfl LB o n c i rfl rfl HLT.out ?_))
        go_ret2
        exact ⟨by rw [HE2.out, HE3.out]; rfl, rfl⟩
      | false =>
        rw [if_neg (by rw [g1]; decide)] at e e2
        have HE2 := Lib.hid e.symm
        have HE3 := Lib.hid e2.symm
        clear e e2
        go_wp2_with (first
          | (refine wpList_reg_elem rfl _ _ rfl LB o n c i rfl rfl HLT.out ?_))
        go_roundw
        case rel => exact ⟨i + 1, HLT.out, by go_num, HE2.out, HE3.out, trivial⟩
        case measure => have := HLT.out; simp [intOf]; omega
    · have f1 : ¬ (i : Int) < (n : Int) := by omega
      obtain rfl : i = n := by omega
      rw [HE.out] at HKE
      rw [HF.out] at HJE
      clear hlt hi hk hj
      go_wp2
      go_ret2
      exact ⟨by rw [← HKE.out, ← HJE.out]; rfl, rfl⟩
set_option maxRecDepth 100000 in
set_option maxHeartbeats 2000000 in
theorem registered_any {w : World} {q : Option Addr} {n c : Nat} {ks : List (Int × Int)} (hq : RegsAt w q ks) (hn : ks.length = n) (hl : n ≤ 1000) (who : Int) :
    Calls Try.prog 41 #[.slice q n c, .int .i64 who] w fun e w' => e = .returned (.bool (inR ks who)) ∧ w = w' := by
  have HK := Lib.hid (keyOf_any (c := c) hq hn hl who)
  clear hq hn hl
  go_enter Try.func41, Try.ntmps41
  go_wp2_with (first
    | (go_at_call 49
       refine HK.out.mono ?_; rintro e w2 ⟨rfl, rfl⟩))
  go_ret
  exact ⟨rfl, rfl⟩
theorem isType_any (t : Int) (w : World) : Calls Try.prog 48 #[.int .i64 t] w fun e w' => e = .returned (.bool (decide (1 ≤ t) && decide (t ≤ 6))) ∧ w = w' := by
  by_cases h1 : 1 ≤ t
  · by_cases h2 : t ≤ 6
    · go_enter Try.func48, Try.ntmps48
      go_wp2
      go_ret
      exact ⟨by simp [h1, h2], rfl⟩
    · go_enter Try.func48, Try.ntmps48
      go_wp2
      go_ret
      exact ⟨by simp [h1, h2], rfl⟩
  · have e : (decide (1 ≤ t) && decide (t ≤ 6)) = false := by rw [decide_eq_false h1]; rfl
    rw [e]
    go_enter Try.func48, Try.ntmps48
    go_wp2
    go_ret
    exact ⟨rfl, rfl⟩
theorem allHold_any (t : Int) (w : World) : Calls Try.prog 59 #[.int .i64 t] w fun e w' => e = .returned (.bool (allR t)) ∧ w = w' := by
  have he : allR t = (t == 5 || t == 6) := rfl
  cases h1 : (t == 5) with
  | true =>
    rw [h1] at he
    generalize allR t = b at *
    go_enter Try.func59, Try.ntmps59
    go_wp2
    go_ret
    exact ⟨by rw [he]; rfl, rfl⟩
  | false =>
    rw [h1] at he
    generalize allR t = b at *
    go_enter Try.func59, Try.ntmps59
    go_wp2
    go_ret
    exact ⟨by rw [he]; rfl, rfl⟩
set_option maxRecDepth 100000 in
set_option maxHeartbeats 4000000 in
theorem rising_any {w : World} {q : Option Addr} {n c : Nat} {ks : List (Int × Int)} (hq : RegsAt w q ks) (hn : ks.length = n) (hl : n ≤ 1000) :
    Calls Try.prog 36 #[.slice q n c] w fun e w' => e = .returned (.bool (risesR ks (-1))) ∧ w = w' := by
  have HR := Lib.hid (fun i (hi : i < ks.length) => regs_at hq (k := i) hi)
  have HK := Lib.hid (fun i (hi : i < ks.length) z => risesR_drop hi z)
  have HE := Lib.hid (show ∀ z, risesR (ks.drop n) z = true from fun z => by rw [List.drop_of_length_le (by omega)]; unfold risesR; rfl)
  have H0 := Lib.hid (show risesR (ks.drop 0) (-1) = risesR ks (-1) by rw [List.drop_zero])
  have HL := Lib.hid hl
  rw [hn] at HR HK
  clear hq hl hn
  go_enter Try.func36, Try.ntmps36
  go_wp2
  go_loopw [7, 4, 3] (fun v7 _ v3 wr => ∃ i : Nat, ∃ z : Int, i ≤ n ∧ v7 = .int .i64 i ∧ v3 = .int .i64 z ∧ risesR (ks.drop i) z = risesR ks (-1) ∧ wr = w) (fun v7 _ _ _ => n - (intOf v7).toNat)
  case atStart => exact ⟨0, -1, Nat.zero_le _, rfl, rfl, H0.out, rfl⟩
  case round =>
    obtain ⟨i, z, hi, rfl, rfl, hk, rfl⟩ := hrel
    have HKE := Lib.hid hk
    by_cases hlt : i < n
    · have f1 : (i : Int) < (n : Int) := by omega
      have HLT := Lib.hid hlt
      have f3 : IntKind.i64.wrap ((i : Int) + 1) = ((i + 1 : Nat) : Int) := by have := HL.out; rw [IntWalk.i64_in _ (by omega)]; omega
      obtain ⟨LB, o, rfl, hB, hrg⟩ := HR.out i hlt
      have e := HK.out i hlt z
      rw [HKE.out] at e
      have kd0 := reg_c0 hrg
      have kd1 := reg_c1 hrg
      clear hk hi hlt hrg hB
      generalize atR ks i = p at *
      by_cases g1 : p.1 ≤ z
      · have HE2 := Lib.hid (show risesR ks (-1) = false by rw [e, decide_eq_false (by omega)]; rfl)
        clear e
        go_wp2_with (first
          | (refine wpList_reg_elem rfl _ _ rfl LB o n c i rfl rfl HLT.out ?_))
        go_ret
        exact ⟨by rw [HE2.out]; rfl, rfl⟩
      · by_cases g2 : p.2 < 1
        · have HE2 := Lib.hid (show risesR ks (-1) = false by rw [e, decide_eq_true (show z < p.1 by omega), decide_eq_false (by omega)]; rfl)
          clear e
          go_wp2_with (first
            | (refine wpList_reg_elem rfl _ _ rfl LB o n c i rfl rfl HLT.out ?_)
            | (refine wpList_reg_elemk _ _ rfl rfl LB o n c i rfl rfl HLT.out ?_))
          go_ret
          exact ⟨by rw [HE2.out]; rfl, rfl⟩
        · have HE2 := Lib.hid (show risesR (ks.drop (i + 1)) p.1 = risesR ks (-1) by rw [e, decide_eq_true (show z < p.1 by omega), decide_eq_true (show 1 ≤ p.2 by omega)]; rfl)
          clear e
          go_wp2_with (first
            | (refine wpList_reg_elem rfl _ _ rfl LB o n c i rfl rfl HLT.out ?_)
            | (refine wpList_reg_elemk _ _ rfl rfl LB o n c i rfl rfl HLT.out ?_))
          go_roundw
          case rel => exact ⟨i + 1, p.1, HLT.out, by go_num, rfl, HE2.out, trivial⟩
          case measure => have := HLT.out; simp [intOf]; omega
    · have f1 : ¬ (i : Int) < (n : Int) := by omega
      obtain rfl : i = n := by omega
      rw [HE.out] at HKE
      clear hlt hi hk
      go_wp2
      go_ret
      exact ⟨by rw [← HKE.out]; rfl, rfl⟩
end Go.Proofs.Ytfnkdmdcjliebaa

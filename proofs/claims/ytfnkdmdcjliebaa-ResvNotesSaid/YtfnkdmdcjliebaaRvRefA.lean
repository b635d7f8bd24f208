/- The contracts of the document's Key, Holds, Nobody, Good. Conditions: the registrations lie in memory, at most 1000. -/
import Derived.Test.YtfnkdmdcjliebaaRvVal
import Derived.WalkMore
import Derived.BigQuiet
namespace Go.Proofs.Ytfnkdmdcjliebaa
open Go.ChangeShapes Go.WideShapes Go.ChangeAt Go.RowKit
set_option linter.unusedVariables false
theorem keyR_drop {ks : List (Int × Int)} {i : Nat} (hi : i < ks.length) (who : Int) : keyR (ks.drop i) who = if (atR ks i).1 == who then (atR ks i).2 else keyR (ks.drop (i + 1)) who := by
  rw [drop_consR hi]; rfl
theorem box_below (w : World) (o : Obj) : Below w.heap.size w (w.alloc o) := (Below.refl _ w).alloc (Nat.le_refl _) _
attribute [local irreducible] regC atR keyR
attribute [local go_sem] Oper.semAt_some
set_option maxRecDepth 100000 in
set_option maxHeartbeats 2000000 in
theorem refKey_any {w : World} {q : Option Addr} {n c : Nat} {r : ResvOf} (hq : RegsAt w q r.regs) (hn : r.regs.length = n) (hl : n ≤ 1000) (who : Int) :
    Calls Try.prog 16 #[.agg (resvA q n c r), .int .i64 who] w fun e w' => e = .returned (.int .i64 (keyR r.regs who)) ∧ Below w.heap.size w w' := by
  have BX := Lib.hid (RvBox.alloc w q n c r)
  have BB := Lib.hid (box_below w (.cells (resvA q n c r) rvT))
  have HR := Lib.hid (fun i (hi : i < r.regs.length) => regs_at hq (k := i) hi)
  have HK := Lib.hid (fun i (hi : i < r.regs.length) => keyR_drop hi who)
  have HE := Lib.hid (show keyR (r.regs.drop n) who = 0 by rw [List.drop_of_length_le (by omega)]; unfold keyR; rfl)
  have H0 := Lib.hid (show keyR (r.regs.drop 0) who = keyR r.regs who by rw [List.drop_zero])
  have HL := Lib.hid hl
  have c0 := BX.out.c0
  rw [hn] at HR HK
  clear hq hl
  go_enter Try.func16, Try.ntmps16
  unfold resvA
  go_wp2
  generalize hW : w.alloc (.cells #[.slice q n c, .int .i64 r.h, .int .i64 r.t, .bool r.s, .int .i64 r.g] rvT) = w1 at *
  have BX1 := Lib.hid (show RvBox w1 w.heap.size q n c r from by rw [← hW]; exact BX.out)
  have BB1 := Lib.hid (show Below w.heap.size w w1 from by rw [← hW]; exact BB.out)
  have c0 := BX1.out.c0
  clear BX BB hW
  go_loopw [5] (fun v5 wr => ∃ i : Nat, i ≤ n ∧ v5 = .int .i64 i ∧ keyR (r.regs.drop i) who = keyR r.regs who ∧ wr = w1) (fun v5 _ => n - (intOf v5).toNat)
  case atStart => exact ⟨0, Nat.zero_le _, rfl, H0.out, rfl⟩
  case round =>
    obtain ⟨i, hi, rfl, hk, rfl⟩ := hrel
    have HKE := Lib.hid hk
    by_cases hlt : i < n
    · have f1 : (i : Int) < (n : Int) := by omega
      have HLT := Lib.hid hlt
      have f3 : IntKind.i64.wrap ((i : Int) + 1) = ((i + 1 : Nat) : Int) := by have := HL.out; rw [IntWalk.i64_in _ (by omega)]; omega
      obtain ⟨LB, o, rfl, hB, hrg⟩ := HR.out i hlt
      have HRK := Lib.hid (rangeAt_below hrg BB1.out hB)
      have e := HK.out i hlt
      rw [HKE.out] at e
      have kd0 := reg_c0 HRK.out
      have kd1 := reg_c1 HRK.out
      clear hk hi hlt hrg hB HRK
      generalize atR r.regs i = p at *
      cases g1 : (p.1 == who) with
      | true =>
        rw [if_pos g1] at e
        have HE2 := Lib.hid e
        clear e
        go_wp2_with (first
          | (refine wpList_reg_elem rfl _ _ rfl LB o n c i rfl rfl HLT.out ?_))
        go_ret
        exact ⟨by rw [HE2.out]; rfl, BB1.out⟩
      | false =>
        rw [if_neg (by rw [g1]; decide)] at e
        have HE2 := Lib.hid e.symm
        clear e
        go_wp2_with (first
          | (refine wpList_reg_elem rfl _ _ rfl LB o n c i rfl rfl HLT.out ?_))
        go_roundw
        case rel => exact ⟨i + 1, HLT.out, by go_num, HE2.out, trivial⟩
        case measure => have := HLT.out; simp [intOf]; omega
    · have f1 : ¬ (i : Int) < (n : Int) := by omega
      obtain rfl : i = n := by omega
      rw [HE.out] at HKE
      clear hlt hi hk
      go_wp2
      go_ret
      exact ⟨by rw [← HKE.out]; rfl, BB1.out⟩
/-- Someone's key in a call's arguments, whatever was laid ahead. -/
theorem refKey_at {w W : World} {q : Option Addr} {n c : Nat} {r : ResvOf} (hq : RegsAt w q r.regs) (hn : r.regs.length = n) (hl : n ≤ 1000) (hb : Below w.heap.size w W) (who : Int) :
    Calls Try.prog 16 #[.agg #[.slice q n c, .int .i64 r.h, .int .i64 r.t, .bool r.s, .int .i64 r.g], .int .i64 who] W fun e w' => e = .returned (.int .i64 (keyR r.regs who)) ∧ Below W.heap.size W w' := refKey_any (RowsAt.below hq hb) hn hl who
set_option maxRecDepth 100000 in
set_option maxHeartbeats 2000000 in
theorem refHolds_any {w : World} {q : Option Addr} {n c : Nat} {r : ResvOf} (hq : RegsAt w q r.regs) (hn : r.regs.length = n) (hl : n ≤ 1000) (who : Int) :
    Calls Try.prog 19 #[.agg (resvA q n c r), .int .i64 who] w fun e w' => e = .returned (.bool (holdsR r who)) ∧ Below w.heap.size w w' := by
  have BX := Lib.hid (RvBox.alloc w q n c r)
  have BB := Lib.hid (box_below w (.cells (resvA q n c r) rvT))
  have HK := Lib.hid (refKey_at (c := c) hq hn hl BB.out who)
  have c0 := BX.out.c0
  have c1 := BX.out.c1
  have c2 := BX.out.c2
  have c3 := BX.out.c3
  have c4 := BX.out.c4
  clear hq hl hn
  go_enter Try.func19, Try.ntmps19
  unfold resvA at *
  have HB := Lib.hid (show holdsR r who = (!(r.h == -1 || keyR r.regs who == 0) && (r.h == who || decide (5 ≤ r.t))) from rfl)
  generalize holdsR r who = hh at *
  cases h1 : (r.h == -1) with
  | true =>
    have e := HB.out
    rw [h1] at e
    clear HB
    go_wp2
    go_ret
    exact ⟨by rw [e]; rfl, BB.out⟩
  | false =>
    cases h2 : (keyR r.regs who == 0) with
    | true =>
      have HE := Lib.hid (show hh = false by rw [HB.out, h1, h2]; rfl)
      clear HB
      go_wp2_with (first
        | (go_at_call 16
           refine HK.out.mono ?_; rintro e w2 ⟨rfl, hb2⟩
           have B2 := Lib.hid (BB.out.trans (hb2.mono BB.out.size))
           clear hb2))
      go_ret
      exact ⟨by rw [HE.out]; rfl, B2.out⟩
    | false =>
      cases h3 : (r.h == who) with
      | true =>
        have HE := Lib.hid (show hh = true by rw [HB.out, h1, h2, h3]; rfl)
        clear HB
        go_wp2_with (first
          | (go_at_call 16
             refine HK.out.mono ?_; rintro e w2 ⟨rfl, hb2⟩
             have B2 := Lib.hid (BB.out.trans (hb2.mono BB.out.size))
             have d1 := (hb2.cell (p := ⟨w.heap.size, 1, none⟩) (by simp)).trans c1
             have d2 := (hb2.cell (p := ⟨w.heap.size, 2, none⟩) (by simp)).trans c2
             clear hb2))
        go_ret
        exact ⟨by rw [HE.out]; rfl, B2.out⟩
      | false =>
        have HE := Lib.hid (show hh = decide (5 ≤ r.t) by rw [HB.out, h1, h2, h3]; rfl)
        clear HB
        go_wp2_with (first
          | (go_at_call 16
             refine HK.out.mono ?_; rintro e w2 ⟨rfl, hb2⟩
             have B2 := Lib.hid (BB.out.trans (hb2.mono BB.out.size))
             have d1 := (hb2.cell (p := ⟨w.heap.size, 1, none⟩) (by simp)).trans c1
             have d2 := (hb2.cell (p := ⟨w.heap.size, 2, none⟩) (by simp)).trans c2
             clear hb2))
        go_ret
        exact ⟨by rw [HE.out]; rfl, B2.out⟩
end Go.Proofs.Ytfnkdmdcjliebaa

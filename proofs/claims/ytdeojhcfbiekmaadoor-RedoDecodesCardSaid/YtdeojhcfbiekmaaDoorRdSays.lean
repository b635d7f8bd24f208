/- The contract of citadelref10's Says: the numbers that a first sector says. Condition: a sector has 128 bytes. -/
import Derived.Test.YtdeojhcfbiekmaaDoorRdNumOf
namespace Go.Proofs.YtdeojhcfbiekmaaDoor
open Go.ChangeShapes Go.WideShapes Go.ChangeAt Go.RowKit
set_option linter.unusedVariables false
attribute [local irreducible] intC natF twoAt saysL fromF numsTo valN secVal
set_option maxRecDepth 100000 in
set_option maxHeartbeats 4000000 in
theorem refSays_any (s : List Int) (hs : IsSec s) (w : World) :
    Calls Tryd.prog 19 #[.agg (cellsOf .u8 (mk 128 (natF s)))] w fun e w' => ∃ p c, e = .returned (.slice p (saysL s).length c) ∧ RowsAt 1 intC w' p (saysL s) ∧ Below w.heap.size w w' := by
  have Y0 := Lib.hid (box_new w s)
  have B0 := Lib.hid ((Below.refl _ w).alloc (Nat.le_refl _) (.cells (cellsOf .u8 (mk 128 (natF s))) 31))
  have HW := Lib.hid (fun o => twoAt_wrap hs o)
  have TK := Lib.hid (fun (p : Option Addr) (n : Nat) (o : Nat) (h2 : 2 ≤ n) W hp => refTake_ok p n n (fromF s o) (fun i _ => fromF_lt hs o i) 2 (.inr (.inl rfl)) h2 W hp)
  have HV := Lib.hid (fun o => from_two s o)
  have HN := Lib.hid (fun (h : ¬ twoAt s 8 ≤ 56) => saysL_none h)
  have HL := Lib.hid (fun (h : twoAt s 8 ≤ 56) => says_len h)
  have HX := Lib.hid (fun (h : twoAt s 8 ≤ 56) k (hk : k < twoAt s 8) => says_take h hk)
  clear hs
  go_enter Tryd.func19, Tryd.ntmps19
  have hw8 := HW.out 8
  have hv8 := HV.out 8
  generalize hm : twoAt s 8 = m at *
  go_wp2_with (first
    | (refine wpList_arr_from rfl _ _ rfl w.heap.size 8 _ rfl rfl rfl (by decide) ?_)
    | (go_at_call 35; refine (TK.out (some ⟨w.heap.size, 8, none⟩) 120 8 (by decide) _ (sec_from Y0.out (by decide))).mono ?_; rintro e w1 ⟨rfl, hw⟩
       rw [hv8, hw8]
       rw [hw] at Y0 B0
       clear hw))
  have HBS := Lib.hid (show w.heap.size ≤ w1.heap.size from B0.out.size)
  generalize hC : w.heap.size = C at *
  by_cases h56 : m ≤ 56
  · have d0 : ∀ i : Int, decide ((m : Int) ≤ 56) = true := fun _ => decide_eq_true (by omega)
    have d1 := d0 0
    have d2 : decide (m ≤ 56) = true := decide_eq_true h56
    have HLL := Lib.hid (HL.out h56)
    have HXX := Lib.hid (HX.out h56)
    have HM := Lib.hid h56
    clear HN HL HX d0 h56
    go_loopw [6, 5] (fun v6 v5 wr => ∃ k : Nat, k ≤ m ∧ v6 = .int .i64 k ∧ OwnL 3 1 intC wr w1.heap.size wr.heap.size v5 ((saysL s).take k) ∧ Below w1.heap.size w1 wr) (fun v6 _ _ => m - (intOf v6).toNat)
    case atStart => exact ⟨0, Nat.zero_le _, rfl, OwnL.nil _ _ _ _ _ _, Below.refl _ _⟩
    case round =>
      obtain ⟨k, hk, rfl, ho, hb⟩ := hrel
      have HO := Lib.hid ho
      have HB := Lib.hid hb
      clear ho hb
      by_cases hlt : k < m
      · have f1 : (k : Int) < (m : Int) := by omega
        have f2 : (0 : Int) ≤ k := by omega
        have f3 : IntKind.i64.wrap ((k : Int) + 1) = ((k + 1 : Nat) : Int) := by have := HM.out; rw [IntWalk.i64_in _ (by omega)]; omega
        have HLT := Lib.hid hlt
        have HNX := Lib.hid (HXX.out k hlt)
        have YR := Lib.hid (Y0.out.below HB.out (by have := Y0.out.lt; omega))
        have hvk := HV.out (10 + 2 * k)
        have hwk := HW.out (10 + 2 * k)
        have TKk := Lib.hid (TK.out (some ⟨C, 10 + 2 * k, none⟩) (128 - (10 + 2 * k)) (10 + 2 * k) (by have := HM.out; omega) wr (sec_from YR.out (by have := HM.out; omega)))
        rw [hvk, hwk] at TKk
        have HLE := Lib.hid (show ((saysL s).take k).length ≤ 1000 by rw [List.length_take]; have := HLL.out; have := HM.out; omega)
        generalize twoAt s (10 + 2 * k) = z at *
        have f4 : IntKind.i64.wrap (2 * (k : Int)) = ((2 * k : Nat) : Int) := by have := HM.out; rw [IntWalk.i64_in _ (by omega)]; omega
        have f5 : IntKind.i64.wrap (10 + ((2 * k : Nat) : Int)) = ((10 + 2 * k : Nat) : Int) := by have := HM.out; rw [IntWalk.i64_in _ (by omega)]; omega
        have HO127 := Lib.hid (show 10 + 2 * k ≤ 127 by have := HM.out; omega)
        generalize 2 * k = k2 at *
        generalize 10 + k2 = o at *
        generalize (saysL s).take k = q at *
        have HWM := Lib.hid (show w1.heap.size ≤ wr.heap.size from HB.out.size)
        clear hlt hk hvk hwk YR
        go_wp2_with (first
          | (refine wpList_arr_from rfl _ _ rfl C o _ rfl rfl rfl HO127.out ?_)
          | (go_at_call 35; refine (TKk.out).mono ?_; rintro e w2 ⟨rfl, rfl⟩
             clear TKk)
          | (refine wpList_int1 rfl _ rfl (z : Int) rfl ?_
             have B4 := Lib.hid (show Below wr.heap.size wr (wr.alloc (.cells (intC (z : Int)).toArray 3)) from (Below.refl _ _).alloc (Nat.le_refl _) _)
             have R4 := Lib.hid (rows_int1 wr (z : Int))
             generalize wr.alloc (.cells (intC (z : Int)).toArray 3) = wx at *)
          | (refine wpList_append_list elemInt rfl _ _ rfl w1.heap.size wr.heap.size _ q [(z : Int)] (some ⟨wr.heap.size, 0, none⟩) 1 1 rfl rfl rfl (HO.out.below (Nat.le_refl _) B4.out) R4.out (by have := HLE.out; simp; omega) (by decide) (by have := HWM.out; have := B4.out.size; omega) ?_
             intro v5 w5 ho5 hg5 hr5
             have O5 := Lib.hid ho5
             have B5 := Lib.hid ((HB.out.trans (B4.out.mono HWM.out)).trans (below_own1 hg5 HO.out.block (by have := HWM.out; have := B4.out.size; omega)))
             clear ho5 hg5 hr5))
        go_roundw
        case rel => exact ⟨k + 1, HLT.out, by go_num, by rw [HNX.out]; exact O5.out, B5.out⟩
        case measure => have := HLT.out; simp [intOf]; omega
      · have f1 : ¬ (k : Int) < (m : Int) := by omega
        obtain rfl : k = m := by omega
        have htk : (saysL s).take k = saysL s := List.take_of_length_le (Nat.le_of_eq HLL.out)
        rw [htk] at HO
        obtain ⟨op, oc, rfl, _, _, hr, _⟩ := HO.out.rows elemInt.len
        have HRR := Lib.hid hr
        have BR := Lib.hid (B0.out.trans (HB.out.mono HBS.out))
        clear hr htk hlt hk HO HB
        go_wp2
        go_ret
        exact ⟨op, ⟨oc, rfl⟩, HRR.out, BR.out⟩
  · have HNL := Lib.hid (HN.out h56)
    have d1 : decide ((m : Int) ≤ 56) = false := decide_eq_false (by omega)
    have d2 : decide (m ≤ 56) = false := decide_eq_false h56
    have f1 : (0 : Int) < (m : Int) := by omega
    have f2 : 0 < m := by omega
    clear HN HL HX h56
    go_loopw [6, 5] (fun v6 v5 wr => v6 = .int .i64 0 ∧ v5 = .slice none 0 0 ∧ wr = w1) (fun _ _ _ => 0)
    case atStart => exact ⟨rfl, rfl, rfl⟩
    case round =>
      obtain ⟨rfl, rfl, rfl⟩ := hrel
      go_wp2
      go_ret
      exact ⟨none, 0, by rw [HNL.out]; rfl, by rw [HNL.out]; exact .inl rfl, by rw [hC]; exact B0.out⟩
end Go.Proofs.YtdeojhcfbiekmaaDoor

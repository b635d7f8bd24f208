/- Puts with the list that it goes over in a new block. Condition: sectors have 128 bytes. -/
import Derived.Test.YtdeojhcfbiekmaaDoorRdTold
namespace Go.Proofs.YtdeojhcfbiekmaaDoor
open Go.ChangeShapes Go.WideShapes Go.ChangeAt Go.RowKit
attribute [local go_sem] Oper.semAt_some
set_option linter.unusedVariables false
section
attribute [local irreducible] intC natF twoAt saysL fromF numsTo valN secVal
set_option maxRecDepth 100000 in
set_option maxHeartbeats 4000000 in
theorem numbersOf_fresh (s : List Int) (hs : IsSec s) (w : World) :
    Calls Tryd.prog 36 #[.agg (cellsOf .u8 (mk 128 (natF s)))] w fun e w' => ∃ p c, e = .returned (.slice p (saysL s).length c) ∧ RowsAt 1 intC w' p (saysL s) ∧ Below w.heap.size w w' ∧ (∀ B f, p = some ⟨B, f, none⟩ → w.heap.size ≤ B) := by
  have Y0 := Lib.hid (box_new w s)
  have B0 := Lib.hid ((Below.refl _ w).alloc (Nat.le_refl _) (.cells (cellsOf .u8 (mk 128 (natF s))) 31))
  have HW := Lib.hid (fun o => twoAt_wrap hs o)
  have HLT := Lib.hid (fun o => twoAt_lt hs o)
  have TK := Lib.hid (fun (p : Option Addr) (n : Nat) (o : Nat) (h2 : 2 ≤ n) (hn : n ≤ 200) W hp => Take_ok p n n (fromF s o) (fun i _ => fromF_lt hs o i) 2 (.inr (.inl rfl)) h2 (Nat.le_refl _) (by omega) W hp)
  have HF := Lib.hid (fun o => from_more s o 2)
  have HV := Lib.hid (fun o => from_two s o)
  have HN := Lib.hid (fun (h : ¬ twoAt s 8 ≤ 56) => saysL_none h)
  have HE := Lib.hid (fun (h : twoAt s 8 ≤ 56) => numsTo_end h)
  have HL := Lib.hid (fun (h : twoAt s 8 ≤ 56) => says_len h)
  have HX := Lib.hid (fun m k => numsTo_next s m k)
  have HZ := Lib.hid (fun m => numsTo_zero s m)
  clear hs
  go_enter Tryd.func36, Tryd.ntmps36
  by_cases h56 : twoAt s 8 ≤ 56
  · have HT := Lib.hid (HE.out h56)
    have HLL := Lib.hid (HL.out h56)
    have hw8 := HW.out 8
    have hv8 := HV.out 8
    clear HN HE HL
    generalize hm : twoAt s 8 = m at *
    have d1 : decide ((56 : Int) < (m : Int)) = false := decide_eq_false (by omega)
    have d2 : decide (56 < m) = false := decide_eq_false (by omega)
    have HM := Lib.hid h56
    clear h56
    go_wp2_with (first
      | (refine wpList_arr_from rfl _ _ rfl w.heap.size 8 _ rfl rfl rfl (by decide) ?_)
      | (go_at_call 49; refine (TK.out (some ⟨w.heap.size, 8, none⟩) 120 8 (by decide) (by decide) _ (sec_from Y0.out (by decide))).mono ?_; rintro e w1 ⟨D, rfl, hd, hD, hb⟩
         rw [hv8, hw8]
         rw [HF.out] at hd
         have D1 := Lib.hid hd
         have B1 := Lib.hid (B0.out.trans (hb.mono B0.out.size))
         clear hd hD hb Y0 B0)
      | (refine wpList_make_ints rfl _ _ rfl m (by have := HM.out; omega) rfl rfl ?_
         have B2 := Lib.hid (B1.out.trans (((Below.refl _ w1).alloc (Nat.le_refl _) (.cells (cellsOf .i64 (List.replicate m 0)) 3)).mono B1.out.size))
         have N2 := Lib.hid (IntBlk.new w1 .i64 3 (List.replicate m 0))
         have D2 := Lib.hid (D1.out.alloc (.cells (cellsOf .i64 (List.replicate m 0)) 3))
         have L2 := Lib.hid (show D < w1.heap.size from D1.out.lt)
         generalize w1.alloc (.cells (cellsOf .i64 (List.replicate m 0)) 3) = w2 at *))
    rw [← HZ.out m] at N2
    have HBW := Lib.hid (show w.heap.size ≤ w1.heap.size from B1.out.size)
    generalize w1.heap.size = N at *
    go_loopw [24, 4, 5] (fun v24 v4 v5 wr => ∃ (k D : Nat), k ≤ m ∧ v24 = .int .i64 k ∧ v4 = .slice (some ⟨D, 0, none⟩) (118 - 2 * k) (118 - 2 * k) ∧ v5 = .nilIface ∧ IntBlk wr D .u8 5 (mk (118 - 2 * k) (fromF s (10 + 2 * k))) ∧ IntBlk wr N .i64 3 (numsTo s m k) ∧ D ≠ N ∧ Below w.heap.size w wr) (fun v24 _ _ _ => m - (intOf v24).toNat)
    case atStart => exact ⟨0, D, Nat.zero_le _, rfl, rfl, rfl, D2.out, N2.out, by have := L2.out; omega, B2.out⟩
    case round =>
      obtain ⟨k, D, hk, rfl, rfl, rfl, hd, hn, hne, hb⟩ := hrel
      have HD := Lib.hid hd
      have HNN := Lib.hid hn
      have HB := Lib.hid hb
      have HNE := Lib.hid hne
      clear hd hn hb hne D2 N2 B2 L2
      by_cases hlt : k < m
      · have f1 : (k : Int) < (m : Int) := by omega
        have f2 : (0 : Int) ≤ k := by omega
        have f3 : IntKind.i64.wrap ((k : Int) + 1) = ((k + 1 : Nat) : Int) := by have := HM.out; rw [IntWalk.i64_in _ (by omega)]; omega
        have HLTk := Lib.hid hlt
        have hvk := HV.out (10 + 2 * k)
        have hwk := HW.out (10 + 2 * k)
        have hxk := HX.out m k
        have XK := Lib.hid hxk
        have hfk := HF.out (10 + 2 * k)
        rw [show 10 + 2 * k + 2 = 10 + 2 * (k + 1) by omega] at hfk
        have TKk := Lib.hid (TK.out (some ⟨D, 0, none⟩) (118 - 2 * k) (10 + 2 * k) (by have := HM.out; omega) (by omega) wr HD.out.bytesAt)
        obtain ⟨n, hn⟩ : ∃ n, n = 118 - 2 * k := ⟨_, rfl⟩
        have hn2 : n - 2 = 118 - 2 * (k + 1) := by omega
        rw [← hn] at TKk ⊢
        rw [hvk, hwk] at TKk
        generalize twoAt s (10 + 2 * k) = z at *
        have HZ2 := Lib.hid (show ∃ W, IntBlk wr N .i64 3 (numsTo s m k) from ⟨wr, HNN.out⟩)
        have HFK := Lib.hid hfk
        have HN2 := Lib.hid hn2
        clear hlt hvk hwk hxk hk hfk hn2 hn
        go_wp2_with (first
          | (go_at_call 49; refine (TKk.out).mono ?_; rintro e w3 ⟨D', rfl, hd, hD, hb⟩
             rw [HFK.out, HN2.out] at hd
             have n3 := HNN.out.below hb HNN.out.lt
             have c1 := n3.cell (i := k) (by rw [numsTo_len]; exact HLTk.out)
             have g1 := n3.free k
             have D3 := Lib.hid hd
             have L3 := Lib.hid (show N < D' from by have := HNN.out.lt; omega)
             have N3 := Lib.hid n3
             have B3 := Lib.hid (HB.out.trans (hb.mono HB.out.size))
             clear hd hD hb n3 TKk HNN HB HD))
        go_roundw
        case rel => exact ⟨k + 1, D', HLTk.out, by go_num, by rw [← HN2.out], rfl, D3.out.other (a := ⟨N, k, none⟩) (by have := L3.out; show N ≠ D'; omega) _, by rw [← XK.out]; exact N3.out.set k _, by have := L3.out; omega, B3.out.setCell (p := ⟨N, k, none⟩) HBW.out _⟩
        case measure => have := HLTk.out; simp [intOf]; omega
      · have f1 : ¬ (k : Int) < (m : Int) := by omega
        obtain rfl : k = m := by omega
        rw [HT.out] at HNN
        clear hlt hk HD HNE
        go_wp2
        go_ret
        exact ⟨some ⟨N, 0, none⟩, ⟨k, by rw [HLL.out]; rfl⟩, rows_ints HNN.out, HB.out, fun B f e => by cases e; exact HBW.out⟩
  · skip
    have HNL := Lib.hid (HN.out h56)
    have hw8 := HW.out 8
    have hv8 := HV.out 8
    clear HN HE HL HX HZ
    generalize hm : twoAt s 8 = m at *
    have d1 : decide ((56 : Int) < (m : Int)) = true := decide_eq_true (by omega)
    have d2 : decide (56 < m) = true := decide_eq_true (by omega)
    clear h56
    go_wp2_with (first
      | (refine wpList_arr_from rfl _ _ rfl w.heap.size 8 _ rfl rfl rfl (by decide) ?_)
      | (go_at_call 49; refine (TK.out (some ⟨w.heap.size, 8, none⟩) 120 8 (by decide) (by decide) _ (sec_from Y0.out (by decide))).mono ?_; rintro e w1 ⟨D, rfl, hd, hD, hb⟩
         rw [hv8, hw8]
         have B1 := Lib.hid (B0.out.trans (hb.mono B0.out.size))
         clear hd hD hb Y0 B0))
    go_ret
    exact ⟨none, 0, by rw [HNL.out]; rfl, by rw [HNL.out]; exact .inl rfl, B1.out, fun B f e => by cases e⟩
end
section
attribute [local irreducible] intC natF twoAt saysL secC secVal
set_option maxRecDepth 100000 in
set_option maxHeartbeats 1000000 in
theorem Puts_fresh (q : Option Addr) (cap : Nat) (cs : List (List Int)) (hcs : ∀ s ∈ cs, IsSec s) (w : World) (hp : RowsAt 128 secC w q cs) :
    Calls Tryd.prog 20 #[.slice q cs.length cap] w fun e w' => ∃ C nq nc, e = .returned (.func (.func 51) #[] #[.pointer (some ⟨C, 0, none⟩)]) ∧ BoxL w' C nq nc (saysC cs) ∧ w.heap.size ≤ C ∧ Below w.heap.size w w' ∧ (∀ B f, nq = some ⟨B, f, none⟩ → w.heap.size ≤ B) := by
  by_cases h0 : cs = []
  · subst h0
    have BX := Lib.hid (boxL_new w none [] 0 (.inl rfl))
    have BB := Lib.hid ((Below.refl _ w).alloc (Nat.le_refl _) (.cells #[.slice none 0 0] 46))
    clear hp hcs
    go_enter Tryd.func20, Tryd.ntmps20
    go_wp2_with (go_at_call 37; refine (All_any none 0 0 w).mono ?_; rintro e w3 ⟨rfl, rfl⟩)
    go_ret
    exact ⟨_, none, 0, rfl, BX.out, Nat.le_refl _, BB.out, fun B f e => by cases e⟩
  · have hn : 0 < cs.length := List.length_pos_iff.2 h0
    have f1 : (0 : Int) < (cs.length : Int) := by omega
    have HL := Lib.hid hn
    obtain ⟨B, o, rfl, hB, hr⟩ := secsAt_get hp hn
    have hs0 : IsSec (cs.getD 0 []) := by rw [List.getD_eq_getElem?_getD, List.getElem?_eq_getElem hn]; exact hcs _ (List.getElem_mem hn)
    have hsc : saysC cs = saysL (cs.getD 0 []) := if_neg h0
    have HR := Lib.hid hr
    have NC := Lib.hid (numbersOf_fresh (cs.getD 0 []) hs0 w)
    rw [← sec_val] at NC
    rw [hsc]
    clear hp hcs h0 hn hB hr hs0 hsc
    generalize cs.getD 0 [] = s0 at *
    generalize cs.length = m at *
    go_enter Tryd.func20, Tryd.ntmps20
    go_wp2_with (first
      | (refine wpList_sec_elem rfl _ _ rfl B o m cap 0 rfl rfl HL.out ?_)
      | (refine wpList_sec_mid rfl _ rfl B o rfl s0 HR.out ?_)
      | (go_at_call 36; refine (NC.out).mono ?_; rintro e w2 ⟨np, nc, rfl, hr, hb, hfr⟩
         have F2 := Lib.hid (show ∀ B f, np = some ⟨B, f, none⟩ → w.heap.size ≤ B from hfr)
         have R2 := Lib.hid hr
         have B2 := Lib.hid hb
         clear hr hb hfr)
      | (go_at_call 37; refine (All_any np _ nc w2).mono ?_; rintro e w3 ⟨rfl, rfl⟩))
    go_ret
    exact ⟨_, np, nc, rfl, boxL_new w2 np _ nc R2.out, B2.out.size, B2.out.alloc B2.out.size _, F2.out⟩
end
end Go.Proofs.YtdeojhcfbiekmaaDoor

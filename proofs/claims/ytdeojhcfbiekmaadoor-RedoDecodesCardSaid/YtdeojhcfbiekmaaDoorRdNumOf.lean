/- The numbers that a first sector says: package redo's numbersOf and citadelref10's Says. Condition: a sector has 128 bytes. -/
import Derived.Test.YtdeojhcfbiekmaaDoorRdFirst
import Derived.Test.YtdeojhcfbiekmaaDoorRdMake
namespace Go.Proofs.YtdeojhcfbiekmaaDoor
open Go.ChangeShapes Go.WideShapes Go.ChangeAt Go.RowKit
set_option linter.unusedVariables false
/-- A sector's bytes from a place on. -/
def fromF (s : List Int) (o : Nat) : Nat → Nat := fun j => natF s (o + j)
theorem fromF_lt {s : List Int} (h : IsSec s) (o j : Nat) : fromF s o j < 256 := natF_lt h.2 _
theorem from_two (s : List Int) (o : Nat) : valN 2 (fromF s o) = twoAt s o := rfl
theorem from_more (s : List Int) (o k : Nat) : (fun j => fromF s o (k + j)) = fromF s (o + k) := by
  funext j; unfold fromF; rw [Nat.add_assoc]
theorem twoAt_lt {s : List Int} (h : IsSec s) (o : Nat) : twoAt s o ≤ 65535 := by
  have := valN_lt (g := fun j => natF s (o + j)) 2 (fun i _ => natF_lt h.2 _)
  unfold twoAt; omega
theorem twoAt_wrap {s : List Int} (h : IsSec s) (o : Nat) : IntKind.i64.wrap (twoAt s o : Nat) = (twoAt s o : Nat) := by
  have := twoAt_lt h o
  exact IntWalk.i64_in _ (by omega)
/-- The first k numbers said, then noughts. -/
def numsTo (s : List Int) (m k : Nat) : List Int := (List.range m).map fun i => if i < k then (twoAt s (10 + 2 * i) : Int) else 0
theorem numsTo_len (s : List Int) (m k : Nat) : (numsTo s m k).length = m := by simp [numsTo]
theorem numsTo_zero (s : List Int) (m : Nat) : numsTo s m 0 = List.replicate m 0 := by
  unfold numsTo
  apply List.ext_getElem
  · simp
  · intro i h1 h2; simp
theorem numsTo_next (s : List Int) (m k : Nat) : (numsTo s m k).set k (twoAt s (10 + 2 * k) : Nat) = numsTo s m (k + 1) := by
  apply List.ext_getElem
  · simp [numsTo]
  · intro i h1 h2
    rw [List.getElem_set]
    by_cases h : k = i
    · subst h; rw [if_pos rfl]; simp [numsTo]
    · rw [if_neg h]
      have e : i < k + 1 ↔ i < k := by omega
      simp only [numsTo, List.getElem_map, List.getElem_range, e]
theorem numsTo_end {s : List Int} (h : twoAt s 8 ≤ 56) : numsTo s (twoAt s 8) (twoAt s 8) = saysL s := by
  unfold saysL numsTo
  rw [if_pos h]
  exact List.map_congr_left fun i hi => by rw [if_pos (List.mem_range.1 hi)]
theorem saysL_none {s : List Int} (h : ¬ twoAt s 8 ≤ 56) : saysL s = [] := if_neg h
theorem says_len {s : List Int} (h : twoAt s 8 ≤ 56) : (saysL s).length = twoAt s 8 := by rw [← numsTo_end h, numsTo_len]
theorem says_take {s : List Int} (h : twoAt s 8 ≤ 56) {k : Nat} (hk : k < twoAt s 8) : (saysL s).take (k + 1) = (saysL s).take k ++ [((twoAt s (10 + 2 * k) : Nat) : Int)] := by
  rw [List.take_add_one]
  congr 1
  rw [List.getElem?_eq_getElem (by rw [says_len h]; exact hk)]
  unfold saysL
  simp [h]
/-- Integers in a block. -/
theorem rows_ints {w : World} {B : Nat} {L : List Int} (h : IntBlk w B .i64 3 L) : RowsAt 1 intC w (some ⟨B, 0, none⟩) L :=
  .inr ⟨B, 0, rfl, h.lt, fun i c hc j v hv => by
    obtain ⟨hi, rfl⟩ := List.getElem?_eq_some_iff.1 hc
    have hj : j = 0 := by
      have := (List.getElem?_eq_some_iff.1 hv).1
      unfold intC at this; simpa using this
    subst hj
    rw [Nat.zero_add, Nat.one_mul, Nat.add_zero, h.cell hi]
    unfold intC at hv
    simp at hv
    rw [← hv, List.getD_eq_getElem?_getD, List.getElem?_eq_getElem hi]; rfl⟩
theorem made_ints (m : Nat) : madeCells (Value.int .i64 0).cells m = cellsOf .i64 (List.replicate m 0) := by
  apply Array.ext
  · rw [size_madeCells, cellsOf_size, List.length_replicate]
  · intro i h1 h2
    simp [madeCells, cellsOf, Value.cells, Nat.mod_one]
theorem run_make_ints (m : Nat) (hm : m ≤ 100000) (w : World) : (Instr.makeSlice 46 (.int .i64 m) (.int .i64 m)).run Tryd.prog w = .ok (.slice (some ⟨w.heap.size, 0, none⟩) m m) (w.alloc (.cells (cellsOf .i64 (List.replicate m 0)) 3)) := by
  have hi : (Tryd.prog.info? 3).map (·.size) = some 1 := by kernel_rfl
  have hz : (Tryd.prog.info? 3).bind (·.zero) = some (.int .i64 0) := by kernel_rfl
  have hb : (Tryd.prog.info? 3).map (·.bytes) = some 8 := by kernel_rfl
  cases hq : Tryd.prog.info? 3 with
  | none => rw [hq] at hi; simp at hi
  | some i =>
    rw [hq] at hi hz hb
    have hsz : i.size = 1 := by simpa using hi
    have hzz : i.zero = some (.int .i64 0) := by simpa using hz
    have hby : i.bytes = 8 := by simpa using hb
    have e := run_make (P := Tryd.prog) w 46 3 i _ Tryd.underlying46 hq hzz .i64 .i64 m m (by omega) (by omega) (by rw [hby]; omega) (by omega)
    rw [hsz, Int.toNat_natCast, made_ints, Nat.mul_one] at e
    exact e
section
variable {ops : Array Oper} {rest : List Oper} {o : Oper} {a : Act} {w : World} {Q : Exit → Act → World → Prop}
theorem wpList_make_ints (hgd : o.guard = none) (x y : Operand) (ho : o.op = .makeSlice 46 x y) (m : Nat) (hm : m ≤ 100000) (hx : a.eval x = .int .i64 m) (hy : a.eval y = .int .i64 m)
    (h : wpList Tryd.prog ops Q rest (a.put o.dst (.slice (some ⟨w.heap.size, 0, none⟩) m m)) (w.alloc (.cells (cellsOf .i64 (List.replicate m 0)) 3))) : wpList Tryd.prog ops Q (o :: rest) a w :=
  wpList_plain hgd fun _ hK => by
    have e := run_make_ints m hm w
    unfold Oper.wp execOp
    simp only [ho]
    simp [hx, hy, e]
    exact hK _ _ h
theorem arr_from (B k : Nat) (z : Int) (hz : z = k) (hk : k ≤ 127) (w : World) : (Instr.sliceAt 31 (.pointer (some ⟨B, 0, none⟩)) (some (.int .i64 z)) none none).run Tryd.prog w = .ok (.slice (some ⟨B, k, none⟩) (128 - k) (128 - k)) w := by
  subst hz
  have hs := byteElem.run_size (P := Tryd.prog) w
  have h0 : (0 : Int) ≤ k := by omega
  have h1 : (k : Int) ≤ 128 := by omega
  simp [go_sem, hs, addr_add, Program.elem, h0, h1]
  intro h; omega
theorem wpList_arr_from (hgd : o.guard = none) (x y : Operand) (ho : o.op = .slice 31 x (some y) none none) (B k : Nat) (z : Int) (hz : z = k) (hx : a.eval x = .pointer (some ⟨B, 0, none⟩)) (hy : a.eval y = .int .i64 z) (hk : k ≤ 127)
    (h : wpList Tryd.prog ops Q rest (a.put o.dst (.slice (some ⟨B, k, none⟩) (128 - k) (128 - k))) w) : wpList Tryd.prog ops Q (o :: rest) a w :=
  wpList_plain hgd fun K hK => by
    have hr := arr_from B k z hz hk w
    unfold Oper.wp execOp
    simp only [ho]
    simp [hx, hy, hr]
    exact hK _ _ h
end
theorem box_new (w : World) (s : List Int) : IntBlk (w.alloc (.cells (cellsOf .u8 (mk 128 (natF s))) 31)) w.heap.size .u8 31 (mk 128 (natF s)) := IntBlk.new _ _ _ _
theorem sec_from {w : World} {B : Nat} {s : List Int} (h : IntBlk w B .u8 31 (mk 128 (natF s))) {o n : Nat} (hn : o + n ≤ 128) : BytesAt w (some ⟨B, o, none⟩) n (fromF s o) := .inr ⟨B, o, rfl, h.lt, fun j hj => h.cells hn j hj⟩
attribute [local irreducible] intC natF twoAt saysL fromF numsTo valN secVal
set_option maxRecDepth 100000 in
set_option maxHeartbeats 4000000 in
theorem numbersOf_any (s : List Int) (hs : IsSec s) (w : World) :
    Calls Tryd.prog 36 #[.agg (cellsOf .u8 (mk 128 (natF s)))] w fun e w' => ∃ p c, e = .returned (.slice p (saysL s).length c) ∧ RowsAt 1 intC w' p (saysL s) ∧ Below w.heap.size w w' := by
  have Y0 := Lib.hid (box_new w s)
  have B0 := Lib.hid ((Below.refl _ w).alloc (Nat.le_refl _) (.cells (cellsOf .u8 (mk 128 (natF s))) 31))
  have HW := Lib.hid (fun o => twoAt_wrap hs o)
  have HLT := Lib.hid (fun o => twoAt_lt hs o)
  have TK := Lib.hid (fun (p : Option Addr) (n : Nat) (o : Nat) (h2 : 2 ≤ n) (hn : n ≤ 200) W hp => Take_ok p n n (fromF s o) (fun i _ => fromF_lt hs o i) 2 (.inr (.inl rfl)) h2 (Nat.le_refl _) (by omega) W hp)
  have HF := Lib.hid (fun o => from_more s o 2)
  have HV := Lib.hid (fun o => from_two s o)
  have HN := Lib.hid (fun (h : ¬ twoAt s 8 ≤ 56) => saysL_none h)
  have HE := Lib.hid (fun (h : twoAt s 8 ≤ 56) => numsTo_end h)
  have HL := Lib.hid (fun (h : twoAt s 8 ≤ 56) => says_len h)
  have HX := Lib.hid (fun m k => numsTo_next s m k)
  have HZ := Lib.hid (fun m => numsTo_zero s m)
  clear hs
  go_enter Tryd.func36, Tryd.ntmps36
  by_cases h56 : twoAt s 8 ≤ 56
  · have HT := Lib.hid (HE.out h56)
    have HLL := Lib.hid (HL.out h56)
    have hw8 := HW.out 8
    have hv8 := HV.out 8
    clear HN HE HL
    generalize hm : twoAt s 8 = m at *
    have d1 : decide ((56 : Int) < (m : Int)) = false := decide_eq_false (by omega)
    have d2 : decide (56 < m) = false := decide_eq_false (by omega)
    have HM := Lib.hid h56
    clear h56
    go_wp2_with (first
      | (refine wpList_arr_from rfl _ _ rfl w.heap.size 8 _ rfl rfl rfl (by decide) ?_)
      | (go_at_call 49; refine (TK.out (some ⟨w.heap.size, 8, none⟩) 120 8 (by decide) (by decide) _ (sec_from Y0.out (by decide))).mono ?_; rintro e w1 ⟨D, rfl, hd, hD, hb⟩
         rw [hv8, hw8]
         rw [HF.out] at hd
         have D1 := Lib.hid hd
         have B1 := Lib.hid (B0.out.trans (hb.mono B0.out.size))
         clear hd hD hb Y0 B0)
      | (refine wpList_make_ints rfl _ _ rfl m (by have := HM.out; omega) rfl rfl ?_
         have B2 := Lib.hid (B1.out.trans (((Below.refl _ w1).alloc (Nat.le_refl _) (.cells (cellsOf .i64 (List.replicate m 0)) 3)).mono B1.out.size))
         have N2 := Lib.hid (IntBlk.new w1 .i64 3 (List.replicate m 0))
         have D2 := Lib.hid (D1.out.alloc (.cells (cellsOf .i64 (List.replicate m 0)) 3))
         have L2 := Lib.hid (show D < w1.heap.size from D1.out.lt)
         generalize w1.alloc (.cells (cellsOf .i64 (List.replicate m 0)) 3) = w2 at *))
    rw [← HZ.out m] at N2
    have HBW := Lib.hid (show w.heap.size ≤ w1.heap.size from B1.out.size)
    generalize w1.heap.size = N at *
    go_loopw [24, 4, 5] (fun v24 v4 v5 wr => ∃ (k D : Nat), k ≤ m ∧ v24 = .int .i64 k ∧ v4 = .slice (some ⟨D, 0, none⟩) (118 - 2 * k) (118 - 2 * k) ∧ v5 = .nilIface ∧ IntBlk wr D .u8 5 (mk (118 - 2 * k) (fromF s (10 + 2 * k))) ∧ IntBlk wr N .i64 3 (numsTo s m k) ∧ D ≠ N ∧ Below w.heap.size w wr) (fun v24 _ _ _ => m - (intOf v24).toNat)
    case atStart => exact ⟨0, D, Nat.zero_le _, rfl, rfl, rfl, D2.out, N2.out, by have := L2.out; omega, B2.out⟩
    case round =>
      obtain ⟨k, D, hk, rfl, rfl, rfl, hd, hn, hne, hb⟩ := hrel
      have HD := Lib.hid hd
      have HNN := Lib.hid hn
      have HB := Lib.hid hb
      have HNE := Lib.hid hne
      clear hd hn hb hne D2 N2 B2 L2
      by_cases hlt : k < m
      · have f1 : (k : Int) < (m : Int) := by omega
        have f2 : (0 : Int) ≤ k := by omega
        have f3 : IntKind.i64.wrap ((k : Int) + 1) = ((k + 1 : Nat) : Int) := by have := HM.out; rw [IntWalk.i64_in _ (by omega)]; omega
        have HLTk := Lib.hid hlt
        have hvk := HV.out (10 + 2 * k)
        have hwk := HW.out (10 + 2 * k)
        have hxk := HX.out m k
        have XK := Lib.hid hxk
        have hfk := HF.out (10 + 2 * k)
        rw [show 10 + 2 * k + 2 = 10 + 2 * (k + 1) by omega] at hfk
        have TKk := Lib.hid (TK.out (some ⟨D, 0, none⟩) (118 - 2 * k) (10 + 2 * k) (by have := HM.out; omega) (by omega) wr HD.out.bytesAt)
        obtain ⟨n, hn⟩ : ∃ n, n = 118 - 2 * k := ⟨_, rfl⟩
        have hn2 : n - 2 = 118 - 2 * (k + 1) := by omega
        rw [← hn] at TKk ⊢
        rw [hvk, hwk] at TKk
        generalize twoAt s (10 + 2 * k) = z at *
        have HZ2 := Lib.hid (show ∃ W, IntBlk wr N .i64 3 (numsTo s m k) from ⟨wr, HNN.out⟩)
        have HFK := Lib.hid hfk
        have HN2 := Lib.hid hn2
        clear hlt hvk hwk hxk hk hfk hn2 hn
        go_wp2_with (first
          | (go_at_call 49; refine (TKk.out).mono ?_; rintro e w3 ⟨D', rfl, hd, hD, hb⟩
             rw [HFK.out, HN2.out] at hd
             have n3 := HNN.out.below hb HNN.out.lt
             have c1 := n3.cell (i := k) (by rw [numsTo_len]; exact HLTk.out)
             have g1 := n3.free k
             have D3 := Lib.hid hd
             have L3 := Lib.hid (show N < D' from by have := HNN.out.lt; omega)
             have N3 := Lib.hid n3
             have B3 := Lib.hid (HB.out.trans (hb.mono HB.out.size))
             clear hd hD hb n3 TKk HNN HB HD))
        go_roundw
        case rel => exact ⟨k + 1, D', HLTk.out, by go_num, by rw [← HN2.out], rfl, D3.out.other (a := ⟨N, k, none⟩) (by have := L3.out; show N ≠ D'; omega) _, by rw [← XK.out]; exact N3.out.set k _, by have := L3.out; omega, B3.out.setCell (p := ⟨N, k, none⟩) HBW.out _⟩
        case measure => have := HLTk.out; simp [intOf]; omega
      · have f1 : ¬ (k : Int) < (m : Int) := by omega
        obtain rfl : k = m := by omega
        rw [HT.out] at HNN
        clear hlt hk HD HNE
        go_wp2
        go_ret
        exact ⟨some ⟨N, 0, none⟩, ⟨k, by rw [HLL.out]; rfl⟩, rows_ints HNN.out, HB.out⟩
  · skip
    have HNL := Lib.hid (HN.out h56)
    have hw8 := HW.out 8
    have hv8 := HV.out 8
    clear HN HE HL HX HZ
    generalize hm : twoAt s 8 = m at *
    have d1 : decide ((56 : Int) < (m : Int)) = true := decide_eq_true (by omega)
    have d2 : decide (56 < m) = true := decide_eq_true (by omega)
    clear h56
    go_wp2_with (first
      | (refine wpList_arr_from rfl _ _ rfl w.heap.size 8 _ rfl rfl rfl (by decide) ?_)
      | (go_at_call 49; refine (TK.out (some ⟨w.heap.size, 8, none⟩) 120 8 (by decide) (by decide) _ (sec_from Y0.out (by decide))).mono ?_; rintro e w1 ⟨D, rfl, hd, hD, hb⟩
         rw [hv8, hw8]
         have B1 := Lib.hid (B0.out.trans (hb.mono B0.out.size))
         clear hd hD hb Y0 B0))
    go_ret
    exact ⟨none, 0, by rw [HNL.out]; rfl, by rw [HNL.out]; exact .inl rfl, B1.out⟩
end Go.Proofs.YtdeojhcfbiekmaaDoor

/- The contract of package redo's firstCell: the sector that tells an entry's count and numbers, or an error, if a number is none. Condition: there are at most 56 puts. -/
import Derived.Test.YtdeojhcfbiekmaaDoorRdWords
import Derived.Test.YtdeojhcfbiekmaaDoorRdSec
namespace Go.Proofs.YtdeojhcfbiekmaaDoor
open Go.ChangeShapes Go.WideShapes Go.ChangeAt Go.RowKit
set_option linter.unusedVariables false
theorem natF_cat (b : List Int) (s : Nat) (z : Int) {j : Nat} (h : j < b.length + s) : cat b.length (natF b) (numF s z) j = natF (b ++ numL s z) j := by
  unfold cat
  by_cases hj : j < b.length
  · rw [if_pos hj, natF_left hj]
  · rw [if_neg hj, natF_right (by omega)]; exact (natF_mk (by omega)).symm
theorem PutL_ok (p : Option Addr) (cap : Nat) (b : List Int) (s : Nat) (z : Int) (hs : IsSize s) (hz : fitsN s z) (hn : b.length ≤ 1000000) (w : World) (hp : BytesAt w p b.length (natF b)) :
    Calls Tryd.prog 44 #[.slice p b.length cap, .int .i64 s, .int .i64 z] w fun e w' => ∃ N, N = (b ++ numL s z).length ∧ e = .returned (.tuple #[.slice (some ⟨w.heap.size, 0, none⟩) N N, .nilIface]) ∧ BytesAt w' (some ⟨w.heap.size, 0, none⟩) (b ++ numL s z).length (natF (b ++ numL s z)) ∧ Below w.heap.size w w' :=
  (Put_ok p b.length cap (natF b) s z hs hz (by omega) w hp).mono fun e w' ⟨he, hb, hl⟩ => by
    have hN : b.length + s = (b ++ numL s z).length := by rw [List.length_append, numL_len]
    refine ⟨b.length + s, hN, he, ?_, hl⟩
    rw [← hN]
    exact bytes_congr (fun j hj => natF_cat b s z hj) hb.bytesAt
/-- What is said of the first k of the numbers. -/
def saidL (count : Int) (L : List Int) (k : Nat) : List Int := numL 8 count ++ (L.take k).flatMap (numL 2)
theorem saidL_zero (count : Int) (L : List Int) : saidL count L 0 = numL 8 count := by unfold saidL; simp
theorem saidL_next (count : Int) (L : List Int) {k : Nat} (h : k < L.length) : saidL count L (k + 1) = saidL count L k ++ numL 2 (L.getD k 0) := by
  unfold saidL
  rw [List.take_add_one, List.getElem?_eq_getElem h, Option.toList_some, List.flatMap_append, List.flatMap_cons, List.flatMap_nil, List.append_nil, List.append_assoc, List.getD_eq_getElem?_getD, List.getElem?_eq_getElem h]; rfl
theorem saidL_len (count : Int) (L : List Int) (k : Nat) (h : k ≤ L.length) : (saidL count L k).length = 8 + 2 * k := by
  unfold saidL; rw [List.length_append, numL_len, flat_len, List.length_take]; omega
theorem saidL_all (count : Int) (ats : List Int) : saidL count (((ats.length : Nat) : Int) :: ats) (ats.length + 1) = headL count ats := by
  unfold saidL headL; rw [List.take_of_length_le (by simp)]
theorem fill_first (b : List Int) : mk 128 (extF b.length (natF b)) = mk 128 (natF (padS b)) := mk_ext fun j hj => by
  unfold padS
  rw [natF_mk hj]
  unfold extF
  by_cases h : j < b.length
  · rw [if_pos h]
  · rw [if_neg h, natF_out (by omega)]
def Fit2 (z : Int) : Prop := 0 ≤ z ∧ z ≤ 65535
theorem fit2_iff (z : Int) : fitsN 2 z ↔ Fit2 z := by
  unfold fitsN Fit2
  have h : (256 : Int) ^ 2 = 65536 := by decide +kernel
  rw [h]; omega
/-- What firstCell answers. -/
def FirstSays (count : Int) (l : List PutOf) (e : Ending) : Prop :=
  ((∀ p ∈ l, Fit2 p.at') ∧ e = .returned (.tuple #[secVal (firstL count l), .nilIface])) ∨ ((¬ ∀ p ∈ l, Fit2 p.at') ∧ e = .returned (.tuple #[secVal [], .iface 39 (.int .i64 1)]))
theorem fill_int1 (z : Int) : Instr.fill (fun i => some (i * 1, 1)) ((Array.range (1 * 1)).map ((Value.int .i64 0).cells[· % (Value.int .i64 0).cells.size]!)) [(0, Value.int .i64 z)] = some ([z].flatMap intC).toArray := by kernel_rfl
theorem run_int1 (z : Int) (w : World) : (Instr.buildSlice 46 1 #[(0, .int .i64 z)]).run Tryd.prog w = .ok (.slice (some ⟨w.heap.size, 0, none⟩) 1 1) (w.alloc (.cells ([z].flatMap intC).toArray 3)) := by
  have hi : (Tryd.prog.info? 3).map (·.size) = some 1 := by kernel_rfl
  have hz : (Tryd.prog.info? 3).bind (·.zero) = some (.int .i64 0) := by kernel_rfl
  cases hq : Tryd.prog.info? 3 with
  | none => rw [hq] at hi; simp at hi
  | some i =>
    rw [hq] at hi hz
    have hs : i.size = 1 := by simpa using hi
    have hzz : i.zero = some (.int .i64 0) := by simpa using hz
    refine run_buildSlice w 46 3 1 _ _ i _ Tryd.underlying46 hq hzz (by rw [hs]; omega) (by rw [hs]; omega) ?_
    rw [hs]; exact fill_int1 z
theorem own_int1 (w : World) (z : Int) (base : Nat) (hb : base ≤ w.heap.size) : OwnL 3 1 intC (w.alloc (.cells (intC z).toArray 3)) base (w.heap.size + 1) (.slice (some ⟨w.heap.size, 0, none⟩) 1 1) [z] := by
  have := own_new (e := 3) elemInt.len w [z] base hb (by simp)
  simpa using this
theorem rows_int1 (w : World) (z : Int) : RowsAt 1 intC (w.alloc (.cells (intC z).toArray 3)) (some ⟨w.heap.size, 0, none⟩) [z] := by
  have := rows_new elemInt.len w [z] 3
  simpa using this
section
variable {ops : Array Oper} {rest : List Oper} {o : Oper} {a : Act} {w : World} {Q : Exit → Act → World → Prop}
theorem wpList_int1 (hgd : o.guard = none) (x : Operand) (ho : o.op = .buildSlice 46 1 #[(0, x)]) (z : Int) (hx : a.eval x = .int .i64 z)
    (h : wpList Tryd.prog ops Q rest (a.put o.dst (.slice (some ⟨w.heap.size, 0, none⟩) 1 1)) (w.alloc (.cells (intC z).toArray 3))) : wpList Tryd.prog ops Q (o :: rest) a w :=
  wpList_plain hgd fun _ hK => by
    have e := run_int1 z w
    rw [show [z].flatMap intC = intC z by simp] at e
    unfold Oper.wp execOp
    simp only [ho]
    simp [hx, e]
    exact hK _ _ h
end
theorem secVal_nil : secVal [] = .agg (cellsOf .u8 (mk 128 zeroK)) := rfl
theorem int_cellD {w : World} {q : Option Addr} {l : List Int} (h : RowsAt 1 intC w q l) {k : Nat} (hk : k < l.length) : ∃ B o, q = some ⟨B, o, none⟩ ∧ B < w.heap.size ∧ w.cell? ⟨B, o + k, none⟩ = some (.int .i64 (l.getD k 0)) := by
  rw [show l.getD k 0 = l[k] by rw [List.getD_eq_getElem?_getD, List.getElem?_eq_getElem hk]; rfl]; exact int_cell h hk
def numsL (l : List PutOf) : List Int := ((l.length : Nat) : Int) :: l.map (·.at')
theorem numsL_len (l : List PutOf) : (numsL l).length = l.length + 1 := by simp [numsL]
theorem numsL_next (l : List PutOf) {k : Nat} (h : k < l.length) : (numsL l).take (k + 2) = (numsL l).take (k + 1) ++ [(l.getD k noPut).at'] := by
  unfold numsL
  rw [List.take_succ_cons, List.take_succ_cons, List.take_add_one, List.getElem?_map, List.getElem?_eq_getElem h, getD_at l h]; rfl
theorem numsL_one (l : List PutOf) : (numsL l).take 1 = [((l.length : Nat) : Int)] := rfl
theorem numsL_all (l : List PutOf) : (numsL l).take (l.length + 1) = numsL l := List.take_of_length_le (by rw [numsL_len]; omega)
theorem numsL_fit {l : List PutOf} (hl : l.length ≤ 56) : (∀ i, i < (numsL l).length → Fit2 ((numsL l).getD i 0)) ↔ ∀ p ∈ l, Fit2 p.at' := by
  constructor
  · intro h p hp
    obtain ⟨i, hi, rfl⟩ := List.getElem_of_mem hp
    have := h (i + 1) (by rw [numsL_len]; omega)
    unfold numsL at this
    rw [List.getD_cons_succ, List.getD_eq_getElem?_getD, List.getElem?_map, List.getElem?_eq_getElem hi] at this
    exact this
  · intro h i hi
    rw [numsL_len] at hi
    cases i with
    | zero => unfold numsL Fit2; rw [List.getD_cons_zero]; omega
    | succ i =>
      unfold numsL
      have hi' : i < l.length := by omega
      rw [List.getD_cons_succ, List.getD_eq_getElem?_getD, List.getElem?_map, List.getElem?_eq_getElem hi']
      exact h _ (List.getElem_mem hi')
theorem firstL_said (count : Int) (l : List PutOf) : padS (saidL count (numsL l) (l.length + 1)) = firstL count l := by
  unfold firstL numsL
  have := saidL_all count (l.map (·.at'))
  rw [List.length_map] at this
  rw [this]
attribute [local irreducible] intC lastTo putC natF saidL numsL numF numL firstL secVal padS
set_option maxRecDepth 100000 in
set_option maxHeartbeats 4000000 in
theorem firstCell_any (count : Int) (q : Option Addr) (cap : Nat) (l : List PutOf) (hl : l.length ≤ 56) (w : World) (hp : RowsAt 129 putC w q l) :
    Calls Tryd.prog 25 #[.int .i64 count, .slice q l.length cap] w fun e w' => FirstSays count l e ∧ Below w.heap.size w w' := by
  have HP := Lib.hid hp
  have HN := Lib.hid hl
  have Y0 := Lib.hid (IntBlk.new w .u8 31 (mk 128 zeroK))
  have B0 := Lib.hid ((Below.refl _ w).alloc (Nat.le_refl _) (.cells (cellsOf .u8 (mk 128 zeroK)) 31))
  have P0 := Lib.hid (fun W => by have := PutL_ok none 0 [] 8 count (.inr (.inr (.inr rfl))) (.inl rfl) (by decide) W (.inl rfl); rw [List.nil_append, ← saidL_zero count (numsL l)] at this; exact this)
  have HFT := Lib.hid (numsL_fit hl)
  have HLN := Lib.hid (numsL_len l)
  have HNL := Lib.hid (numsL_all l)
  have HFS := Lib.hid (firstL_said count l)
  clear hp hl
  generalize hL : l.length = n at *
  go_enter Tryd.func25, Tryd.ntmps25
  go_wp2_with (first
    | (refine wpList_sec_alloc rfl rfl w.heap.size rfl ?_)
    | (go_at_call 44; refine (P0.out _).mono ?_; rintro e w2 ⟨N, hN, rfl, hb, hl2⟩
       have BS := Lib.hid hb
       have B2 := Lib.hid (B0.out.trans (hl2.mono B0.out.size))
       have Y2 := Lib.hid (Y0.out.below hl2 Y0.out.lt)
       have NS := Lib.hid hN
       clear hb hl2 hN B0 Y0 P0)
    | (refine wpList_int1 rfl _ rfl (n : Int) rfl ?_))
  have O0 := Lib.hid (own_int1 w2 (n : Int) w2.heap.size (Nat.le_refl _))
  have A0 := Lib.hid ((Below.refl w2.heap.size w2).alloc (Nat.le_refl _) (.cells (intC (n : Int)).toArray 3))
  have S0 := Lib.hid (show (w2.alloc (.cells (intC (n : Int)).toArray 3)).heap.size = w2.heap.size + 1 by simp)
  generalize w2.alloc (.cells (intC (n : Int)).toArray 3) = w3 at *
  have HST := Lib.hid (show ((numsL l).take (0 + 1)) = [(n : Int)] by rw [← hL]; exact numsL_one l)
  go_loopw [27, 8] (fun v27 v8 wr => ∃ k : Nat, k ≤ n ∧ v27 = .int .i64 k ∧ OwnL 3 1 intC wr w2.heap.size wr.heap.size v8 ((numsL l).take (k + 1)) ∧ Below w2.heap.size w2 wr) (fun v27 _ _ => n - (intOf v27).toNat)
  case atStart => exact ⟨0, Nat.zero_le _, rfl, by rw [HST.out, S0.out]; exact O0.out, A0.out⟩
  case round =>
    obtain ⟨k, hk, rfl, ho, hb⟩ := hrel
    by_cases hlt : k < n
    · obtain ⟨B, o, rfl, hB, hr⟩ := rowsAt_get HP.out (show k < l.length by omega)
      have hnx := numsL_next l (show k < l.length by omega)
      have HR := Lib.hid (rangeAt_below hr (B2.out.trans (hb.mono B2.out.size)) hB)
      have f1 : (k : Int) < (n : Int) := by omega
      have f2 : (0 : Int) ≤ k := by omega
      have f3 : IntKind.i64.wrap ((k : Int) + 1) = ((k + 1 : Nat) : Int) := by have := HN.out; rw [IntWalk.i64_in _ (by omega)]; omega
      have HLT := Lib.hid hlt
      have HO := Lib.hid ho
      have HB := Lib.hid hb
      have HNX := Lib.hid hnx
      have HLE := Lib.hid (show ((numsL l).take (k + 1)).length ≤ 1000 by rw [List.length_take, numsL_len]; have := HN.out; omega)
      have HWS := Lib.hid (show w2.heap.size ≤ wr.heap.size from hb.size)
      clear hlt hr hB ho hb hnx O0 A0
      generalize l.getD k noPut = c at *
      generalize (numsL l).take (k + 1) = m at *
      have OB := Lib.hid (PutBox.new wr c)
      have BO := Lib.hid (put_box_below wr c)
      go_wp2_with (first
        | (refine wpList_put_elem rfl _ _ rfl B o n cap k rfl rfl HLT.out ?_)
        | (refine wpList_put_load rfl _ rfl B (o + 129 * k) rfl c HR.out ?_)
        | (refine wpList_put_alloc rfl rfl ?_)
        | (refine store_row_on rfl 57 _ _ rfl rfl wr.heap.size (putC c).toArray rfl rfl 57 (putC ⟨0, []⟩).toArray (heap_alloc_new _ _) (putA_size c) (by rw [List.size_toArray, List.size_toArray, putC_len, putC_len]) (putA_one c) ?_
           generalize hW : (wr.alloc (.cells (putC ⟨0, []⟩).toArray 57)).setRow wr.heap.size (putC c).toArray = wb at *
           have c0 : wb.cell? ⟨wr.heap.size, 0, none⟩ = some (.int .i64 c.at') := (OB.out.cell 0).trans (putC_at c))
        | (refine wpList_int1 rfl _ rfl c.at' rfl ?_
           have B4 := Lib.hid (show Below wb.heap.size wb (wb.alloc (.cells (intC c.at').toArray 3)) from (Below.refl _ _).alloc (Nat.le_refl _) _)
           have R4 := Lib.hid (rows_int1 wb c.at')
           have S4 := Lib.hid (show (wb.alloc (.cells (intC c.at').toArray 3)).heap.size = wb.heap.size + 1 by simp)
           generalize hX : wb.alloc (.cells (intC c.at').toArray 3) = wx at *)
        | (refine wpList_append_list elemInt rfl _ _ rfl w2.heap.size wr.heap.size _ m [c.at'] (some ⟨wb.heap.size, 0, none⟩) 1 1 rfl rfl rfl ((HO.out.below (Nat.le_refl _) BO.out).below BO.out.size B4.out) R4.out (by have := HLE.out; simp; omega) (by decide) (by have := HWS.out; have := BO.out.size; have := B4.out.size; omega) ?_
           intro v5 w5 ho5 hg5 hr5
           have O5 := Lib.hid ho5
           have B5 := Lib.hid ((HB.out.trans ((BO.out.trans (B4.out.mono BO.out.size)).mono HWS.out)).trans (below_own1 hg5 HO.out.block (by have := HWS.out; have := BO.out.size; have := B4.out.size; omega)))
           clear ho5 hg5 hr5))
      go_roundw
      case rel => exact ⟨k + 1, HLT.out, by go_num, by rw [HNX.out]; exact O5.out, B5.out⟩
      case measure => have := HLT.out; simp [intOf]; omega
    · have f1 : ¬ (k : Int) < (n : Int) := by omega
      obtain rfl : k = n := by omega
      rw [HNL.out] at ho
      obtain ⟨np, nc, rfl, _, _, hnr, hnq⟩ := ho.rows elemInt.len
      have HNQ := Lib.hid hnq
      have HNR := Lib.hid hnr
      have B6 := Lib.hid (B2.out.trans (hb.mono B2.out.size))
      have Y6 := Lib.hid (Y2.out.below hb Y2.out.lt)
      have BS6 := Lib.hid (BS.out.below hb)
      clear hlt hk ho hb hnr hnq BS B2 Y2 O0 A0 HST S0
      generalize hLL : numsL l = L at *
      go_wp2
      rw [World.size_alloc] at BS6
      generalize wr = wA at *
      have HLM := Lib.hid (show L.length ≤ 57 by have := HLN.out; have := HN.out; omega)
      go_loopw [39, 6] (fun v39 v6 wr => ∃ (k D : Nat), k ≤ L.length ∧ v39 = .int .i64 k ∧ v6 = .slice (some ⟨D, 0, none⟩) (saidL count L k).length (saidL count L k).length ∧ BytesAt wr (some ⟨D, 0, none⟩) (saidL count L k).length (natF (saidL count L k)) ∧ (∀ i, i < k → Fit2 (L.getD i 0)) ∧ IntBlk wr w.heap.size .u8 31 (mk 128 zeroK) ∧ Below w.heap.size w wr ∧ Below wA.heap.size wA wr) (fun v39 _ _ => L.length - (intOf v39).toNat)
      case atStart => exact ⟨0, w.heap.size + 1, Nat.zero_le _, rfl, by rw [NS.out], BS6.out, fun i hi => absurd hi (Nat.not_lt_zero _), Y6.out, B6.out, Below.refl _ _⟩
      case round =>
        obtain ⟨j, D, hj, rfl, rfl, hby, hft, hy, hb, ha⟩ := hrel
        have HY := Lib.hid hy
        have HB := Lib.hid hb
        have HBY := Lib.hid hby
        clear hy hb hby BS6 B6 Y6
        by_cases hlt : j < L.length
        · obtain ⟨KB, ko, rfl, hKB, hkc⟩ := int_cellD HNR.out hlt
          obtain rfl : ko = 0 := (HNQ.out KB ko rfl).2.2
          rw [Nat.zero_add] at hkc
          have ck := (ha.cell (p := ⟨KB, j, none⟩) hKB).trans hkc
          have hnx := saidL_next count L hlt
          have hlen := saidL_len count L j hj
          have f1 : (j : Int) < (L.length : Int) := by omega
          have f2 : (0 : Int) ≤ j := by omega
          have f3 : IntKind.i64.wrap ((j : Int) + 1) = ((j + 1 : Nat) : Int) := by have := HLM.out; rw [IntWalk.i64_in _ (by omega)]; omega
          have HLT := Lib.hid hlt
          have HFT2 := Lib.hid hft
          have HA := Lib.hid ha
          have HNF := Lib.hid (fun (h : ¬ Fit2 (L.getD j 0)) (hh : ∀ i, i < L.length → Fit2 (L.getD i 0)) => h (hh j HLT.out))
          have HXF := Lib.hid (fun (h : Fit2 (L.getD j 0)) i (hi : i < j + 1) => show Fit2 (L.getD i 0) from by
            by_cases e : i = j
            · subst e; exact h
            · exact HFT2.out i (by omega))
          have HXN := Lib.hid hnx
          have HBL := Lib.hid (show (saidL count L j).length ≤ 1000 by rw [hlen]; have := HLM.out; omega)
          clear hlt hKB hkc hnx hft ha hlen
          generalize L.getD j 0 = z at *
          generalize saidL count L j = b at *
          by_cases hz : Fit2 z
          · have HX := Lib.hid (HXF.out hz)
            have PC := Lib.hid (PutL_ok (some ⟨D, 0, none⟩) b.length b 2 z (.inr (.inl rfl)) ((fit2_iff z).2 hz) (by have := HBL.out; omega) wr HBY.out)
            clear hz
            go_wp2_with (first
              | (go_at_call 44; refine (PC.out).mono ?_; rintro e w5 ⟨N5, hN5, rfl, hby5, hl5⟩
                 have HBY5 := Lib.hid hby5
                 have NS5 := Lib.hid hN5
                 have Y5 := Lib.hid (HY.out.below hl5 HY.out.lt)
                 have B5 := Lib.hid (HB.out.trans (hl5.mono HB.out.size))
                 have A5 := Lib.hid (HA.out.trans (hl5.mono HA.out.size))
                 clear hby5 hl5 hN5 PC HY HB HA HBY))
            go_roundw
            case rel => exact ⟨j + 1, wr.heap.size, HLT.out, by go_num, by rw [HXN.out, NS5.out], by rw [HXN.out]; exact HBY5.out, HX.out, Y5.out, B5.out, A5.out⟩
            case measure => have := HLT.out; simp [intOf]; omega
          · have HX := Lib.hid (HNF.out hz)
            have PC := Lib.hid (Put_range (some ⟨D, 0, none⟩) b.length b.length 2 z (.inr (.inl rfl)) (fun h => hz ((fit2_iff z).1 h)) wr)
            clear hz
            go_wp2_with (first
              | (go_at_call 44; refine (PC.out).mono ?_; rintro e w5 ⟨rfl, rfl⟩)
              | (refine wpList_sec_build0 rfl rfl ?_)
              | (refine store_row_on rfl 31 _ _ rfl rfl w.heap.size (cellsOf .u8 (mk 128 zeroK)) rfl rfl 31 (cellsOf .u8 (mk 128 zeroK)) HY.out (secSize _) (sec_same _ _) (cellsOf_one _ _) ?_))
            exact bodyPost_ret (results_cell_row_tmp rfl _ _ w.heap.size 31 (cellsOf .u8 (mk 128 zeroK)) (0, 0) _ rfl (HY.out.setRow .u8 (mk 128 zeroK)) secUnder rfl (secSize _)) rfl ⟨.inr ⟨fun h => HX.out (HFT.out.2 h), by rw [secVal_nil]; rfl⟩, below_setRow HB.out (Nat.le_refl _) _⟩
        · have f1 : ¬ (j : Int) < (L.length : Int) := by omega
          obtain rfl : j = L.length := by omega
          have hlen := saidL_len count L L.length (Nat.le_refl _)
          have HLE := Lib.hid (show (saidL count L L.length).length ≤ 128 by rw [hlen]; have := HLM.out; omega)
          have HAL := Lib.hid (HFT.out.1 hft)
          have hfs := HFS.out
          rw [← HLN.out] at hfs
          have HFI := Lib.hid (fill_first (saidL count L L.length))
          rw [hfs] at HFI
          clear hft hlt hj hlen hfs ha HFS
          generalize saidL count L L.length = b at *
          have FC := Lib.hid (Fill_ok (some ⟨D, 0, none⟩) b.length b.length (natF b) HLE.out wr HBY.out)
          rw [HFI.out] at FC
          go_wp2_with (first
            | (go_at_call 45; refine (FC.out).mono ?_; rintro e w5 ⟨rfl, hl5⟩
               have Y5 := Lib.hid (HY.out.below hl5 HY.out.lt)
               have B5 := Lib.hid (HB.out.trans (hl5.mono HB.out.size))
               clear hl5 HY HB FC)
            | (refine store_row_on rfl 31 _ _ rfl rfl w.heap.size (cellsOf .u8 (mk 128 (natF (firstL count l)))) rfl rfl 31 (cellsOf .u8 (mk 128 zeroK)) Y5.out (secSize _) (sec_same _ _) (cellsOf_one _ _) ?_))
          exact bodyPost_ret (results_cell_row_tmp rfl _ _ w.heap.size 31 (cellsOf .u8 (mk 128 (natF (firstL count l)))) (0, 0) _ rfl (Y5.out.setRow .u8 (mk 128 (natF (firstL count l)))) secUnder rfl (secSize _)) rfl ⟨.inl ⟨HAL.out, by unfold secVal; rfl⟩, below_setRow B5.out (Nat.le_refl _) _⟩
end Go.Proofs.YtdeojhcfbiekmaaDoor

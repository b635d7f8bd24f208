/- The contract of the text that RedoReturns holds sectors against: the first sector and the puts'. Condition: sectors have 128 bytes; there are from 2 to 1000. -/
import Derived.Test.YtdeojhcfbiekmaaDoorRdBackL
namespace Go.Proofs.YtdeojhcfbiekmaaDoor
open Go.ChangeShapes Go.WideShapes Go.ChangeAt Go.RowKit
set_option linter.unusedVariables false
theorem run_secs_from2 (p : Option Addr) (n cap : Nat) (hk : 2 ≤ n) (hn : n ≤ cap) (w : World) : (Instr.sliceAt 25 (.slice p n cap) (some (.int .i64 2)) none none).run Tryd.prog w = .ok (.slice (if cap = 2 then p else p.map (·.add 256)) (n - 2) (cap - 2)) w := by
  have hi := secSz
  have e2 : (2 : Int) ≤ n := by omega
  cases hq : Tryd.prog.info? 31 with
  | none => rw [hq] at hi; simp at hi
  | some i =>
    have hs : i.size = 128 := by simpa [hq] using hi
    simp [go_sem, Tryd.underlying25, sizeOf, typeInfo, hq, hs, e2, Program.elem]
theorem wpList_secs_from2 {ops : Array Oper} {rest : List Oper} {o : Oper} {a : Act} {w : World} {Q : Exit → Act → World → Prop} (hgd : o.guard = none) (x y : Operand) (ho : o.op = .slice 25 x (some y) none none) (p : Option Addr) (n cap : Nat) (cs : List (List Int)) (hx : a.eval x = .slice p n cap) (hy : a.eval y = .int .i64 2) (hk : 2 ≤ n) (hn : n ≤ cap) (hc : cs.length = n) (hr : RowsAt 128 secC w p cs)
    (h : ∀ p', RowsAt 128 secC w p' (cs.drop 2) → (∀ B o', p' = some ⟨B, o', none⟩ → cs.drop 2 ≠ [] → ∃ o, p = some ⟨B, o, none⟩) → wpList Tryd.prog ops Q rest (a.put o.dst (.slice p' (n - 2) (cap - 2))) w) : wpList Tryd.prog ops Q (o :: rest) a w := by
  have hrun := run_secs_from2 p n cap hk hn w
  refine wpList_plain hgd fun K hK => ?_
  unfold Oper.wp execOp
  simp only [ho, hx]
  simp [hy, hrun]
  refine hK _ _ (h _ ?_ ?_)
  · by_cases e : n = 2
    · exact .inl (List.drop_eq_nil_of_le (by omega))
    · rw [if_neg (by omega)]
      rcases hr with rfl | ⟨B, o', rfl, hB, hr⟩
      · simp at hc; omega
      · refine .inr ⟨B, o' + 256, by simp [addr_add], hB, fun i c hi => ?_⟩
        rw [List.getElem?_drop] at hi
        have := hr (2 + i) c hi
        rwa [show o' + 128 * (2 + i) = o' + 256 + 128 * i by omega] at this
  · intro B o' he hne
    rcases hr with rfl | ⟨B', o2, rfl, hB, hr⟩
    · simp at hne
    · split at he
      · exact ⟨o2, by cases he; rfl⟩
      · refine ⟨o2, ?_⟩
        simp [addr_add] at he
        rw [he.1]
/-- The text. -/
def textC (cs : List (List Int)) : List Int := cs.getD 0 [] ++ (cs.drop 2).flatten
def textCT (cs : List (List Int)) (k : Nat) : List Int := cs.getD 0 [] ++ ((cs.drop 2).take k).flatten
theorem textCT_zero (cs : List (List Int)) : textCT cs 0 = cs.getD 0 [] := by simp [textCT]
theorem textCT_next (cs : List (List Int)) {k : Nat} (h : k < (cs.drop 2).length) : textCT cs (k + 1) = textCT cs k ++ (cs.drop 2).getD k [] := by
  have e : (cs.drop 2).getD k [] = (cs.drop 2)[k] := by rw [List.getD_eq_getElem?_getD, List.getElem?_eq_getElem h]; rfl
  rw [e]
  unfold textCT
  rw [List.take_add_one, List.getElem?_eq_getElem h, Option.toList_some, List.flatten_append, ← List.append_assoc]; simp
theorem textCT_end (cs : List (List Int)) : textCT cs (cs.drop 2).length = textC cs := by unfold textCT textC; rw [List.take_of_length_le (Nat.le_refl _)]
theorem textCT_len {cs : List (List Int)} (hcs : ∀ s ∈ cs, IsSec s) (h : 0 < cs.length) : ∀ {k : Nat}, k ≤ (cs.drop 2).length → (textCT cs k).length = 128 * (k + 1)
  | 0, _ => by rw [textCT_zero, (hcs _ (getD_mem [] h)).1]
  | k + 1, hk => by
    rw [textCT_next cs (by omega), List.length_append, textCT_len hcs h (by omega), (hcs _ (List.mem_of_mem_drop (getD_mem [] (show k < (cs.drop 2).length by omega)))).1]; omega
theorem textC_enc (τ : List Int → List Int) (count : Int) (l : List PutOf) : textC (encL τ count l) = textL (firstL count l) l := by
  unfold textC encL textL
  simp [List.flatMap_def]
attribute [local irreducible] putC natF secC textC textCT byteC
set_option maxRecDepth 100000 in
set_option maxHeartbeats 4000000 in
theorem text_any (q : Option Addr) (cap : Nat) (cs : List (List Int)) (hcs : ∀ s ∈ cs, IsSec s) (h2 : 2 ≤ cs.length) (hn : cs.length ≤ 1000) (hcap : cs.length ≤ cap) (w : World) (hp : RowsAt 128 secC w q cs) :
    Calls Tryd.prog 38 #[.slice q cs.length cap] w fun e w' => (∃ p c, e = .returned (.slice p (textC cs).length c) ∧ RowsAt 1 byteC w' p (textC cs)) ∧ Below w.heap.size w w' := by
  obtain ⟨B, o, rfl, hB, hr⟩ := secsAt_get hp (show 0 < cs.length by omega)
  have HS0 := Lib.hid (hcs _ (getD_mem [] (show 0 < cs.length by omega)))
  have HSX := Lib.hid (fun k (hk : k < (cs.drop 2).length) => hcs _ (List.mem_of_mem_drop (getD_mem [] hk)))
  have HP := Lib.hid hp
  have HR := Lib.hid hr
  have HBL := Lib.hid hB
  have TZ := Lib.hid (textCT_zero cs)
  have TN := Lib.hid (fun k (h : k < (cs.drop 2).length) => textCT_next cs h)
  have TE := Lib.hid (textCT_end cs)
  have TL := Lib.hid (fun k (h : k ≤ (cs.drop 2).length) => textCT_len hcs (by omega) h)
  have HDL := Lib.hid (show (cs.drop 2).length = cs.length - 2 from List.length_drop ..)
  have HN := Lib.hid hn
  have H2 := Lib.hid h2
  have HC := Lib.hid hcap
  have O5 := Lib.hid (OwnL.empty 5 1 byteC w w.heap.size (Nat.le_refl _))
  have B5 := Lib.hid ((Below.refl w.heap.size w).alloc (Nat.le_refl _) (.cells #[] 5))
  have Z5 := Lib.hid (show (w.alloc (.cells #[] 5)).heap.size = w.heap.size + 1 by simp)
  clear hp hr hB hcs h2 hn hcap
  generalize hm : cs.length = m at *
  go_enter Tryd.func38, Tryd.ntmps38
  go_wp2_with (first
    | (refine wpList_list0 elemByte rfl rfl ?_
       generalize w.alloc (.cells #[] 5) = w5 at *
       have C5 := Lib.hid (show RowsAt 1 byteC w5 (some ⟨B, o, none⟩) (cs.getD 0 []) from sec_bytesL HS0.out (rangeAt_below HR.out B5.out HBL.out) (Nat.lt_of_lt_of_le HBL.out B5.out.size)))
    | (refine wpList_sec_elem rfl _ _ rfl B o m cap 0 rfl rfl (by have := H2.out; omega) ?_)
    | (refine wpList_arr_slice rfl 31 5 128 secUnder rfl _ rfl B o rfl ?_)
    | (refine wpList_append_list elemByte rfl _ _ rfl w.heap.size (w.heap.size + 1) _ [] (cs.getD 0 []) (some ⟨B, o, none⟩) 128 128 rfl rfl HS0.out.1.symm O5.out C5.out (by rw [HS0.out.1]; decide) (by decide) (by have := Z5.out; omega) ?_
       intro v6 w6 ho6 hg6 hr6
       rw [List.nil_append, ← TZ.out] at ho6
       have O6 := Lib.hid ho6
       have B6 := Lib.hid (B5.out.trans (below_own1 hg6 O5.out.block (by have := Z5.out; omega)))
       clear ho6 hg6 hr6 O5 B5 Z5 C5)
    | (refine wpList_secs_from2 rfl _ _ rfl (some ⟨B, o, none⟩) m cap cs rfl rfl H2.out HC.out hm (HP.out.below B6.out) ?_
       intro p' hp' hpb
       have HPP := Lib.hid hp'
       have HPB := Lib.hid hpb
       clear hp' hpb))
  have hd2 := HDL.out
  rw [← hd2]
  have HD2 := Lib.hid hd2
  clear hd2
  have HR6 := Lib.hid (show RowsAt 128 secC w6 p' (cs.drop 2) from HPP.out)
  have HLOW := Lib.hid (show ∀ B' o', p' = some ⟨B', o', none⟩ → cs.drop 2 ≠ [] → B' < w.heap.size from fun B' o' he hne => by
    obtain ⟨o2, e⟩ := HPB.out B' o' he hne
    cases e; exact HBL.out)
  generalize hdn : (cs.drop 2).length = n at *
  go_loopw [14, 3] (fun v14 v3 wr => ∃ k : Nat, k ≤ n ∧ v14 = .int .i64 k ∧ OwnL 5 1 byteC wr w.heap.size wr.heap.size v3 (textCT cs k) ∧ Below w.heap.size w wr ∧ RowsAt 128 secC wr p' (cs.drop 2)) (fun v14 _ _ => n - (intOf v14).toNat)
  case atStart => exact ⟨0, Nat.zero_le _, rfl, O6.out, B6.out, HR6.out⟩
  case round =>
    obtain ⟨k, hk, rfl, ho, hb, hrw⟩ := hrel
    have HO := Lib.hid ho
    have HB := Lib.hid hb
    have HRW := Lib.hid hrw
    clear ho hb hrw O6 B6 HR6
    have HWM := Lib.hid (show w.heap.size ≤ wr.heap.size from HB.out.size)
    by_cases hlt : k < n
    · obtain ⟨E, oe, hqe, hE, hre⟩ := secsAt_get HRW.out (show k < (cs.drop 2).length by omega)
      have HEL := Lib.hid (HLOW.out E oe hqe (fun h => by rw [h] at hdn; simp at hdn; omega))
      subst hqe
      have HRE := Lib.hid hre
      have f1 : (k : Int) < (n : Int) := by omega
      have f2 : (0 : Int) ≤ k := by omega
      have f3 : IntKind.i64.wrap ((k : Int) + 1) = ((k + 1 : Nat) : Int) := by have := HN.out; have := HD2.out; rw [IntWalk.i64_in _ (by omega)]; omega
      have HTX := Lib.hid (TN.out k hlt)
      have HSJ := Lib.hid (HSX.out k hlt)
      have HLT := Lib.hid hlt
      have HLE := Lib.hid (show (textCT cs k).length ≤ 200000 by rw [TL.out k hk]; have := HN.out; have := HD2.out; omega)
      clear hlt hre hE
      generalize (cs.drop 2).getD k [] = s at *
      generalize textCT cs k = tx at *
      have hX := sec_laid wr (natF s)
      have Y3 := Lib.hid hX.1
      have B3 := Lib.hid hX.2
      clear hX
      go_wp2_with (first
        | (refine wpList_sec_elem rfl _ _ rfl E oe n (cap - 2) k rfl rfl HLT.out ?_)
        | (refine wpList_sec_mid rfl _ rfl E (oe + 128 * k) rfl s HRE.out ?_
           unfold secVal)
        | (refine wpList_sec_alloc rfl rfl wr.heap.size rfl ?_)
        | (refine store_row_on rfl 31 _ _ rfl rfl wr.heap.size (cellsOf .u8 (mk 128 (natF s))) rfl rfl 31 (cellsOf .u8 (mk 128 zeroK)) (heap_alloc_new _ _) (secSize _) (sec_same _ _) (cellsOf_one _ _) ?_
           change wpList _ _ _ _ _ ((wr.alloc (.cells (cellsOf .u8 (mk 128 zeroK)) 31)).setRow wr.heap.size (cellsOf .u8 (mk 128 (natF s))))
           generalize (wr.alloc (.cells (cellsOf .u8 (mk 128 zeroK)) 31)).setRow wr.heap.size (cellsOf .u8 (mk 128 (natF s))) = wb at *)
        | (refine wpList_arr_slice rfl 31 5 128 secUnder rfl _ rfl wr.heap.size 0 rfl ?_)
        | (refine wpList_append_list elemByte rfl _ _ rfl w.heap.size wr.heap.size _ tx s (some ⟨wr.heap.size, 0, none⟩) 128 128 rfl rfl HSJ.out.1.symm (HO.out.below (Nat.le_refl _) B3.out) (blk_bytesL HSJ.out Y3.out) (by rw [HSJ.out.1]; have := HLE.out; omega) (by decide) (Nat.le_trans HWM.out B3.out.size) ?_
           intro v5 w5 ho5 hg5 hr5
           have O5 := Lib.hid ho5
           have X5 := Lib.hid (below_own1 hg5 HO.out.block (Nat.le_trans HWM.out B3.out.size))
           have B5 := Lib.hid ((HB.out.trans (B3.out.mono HWM.out)).trans X5.out)
           have R5 := Lib.hid ((HRW.out.below B3.out).belowM X5.out (fun B' o' he => by cases he; exact HEL.out) (Nat.le_trans HWM.out B3.out.size))
           clear ho5 hg5 hr5))
      go_roundw
      case rel => exact ⟨k + 1, HLT.out, by go_num, by rw [HTX.out]; exact O5.out, B5.out, R5.out⟩
      case measure => have := HLT.out; simp [intOf]; omega
    · have f1 : ¬ (k : Int) < (n : Int) := by omega
      obtain rfl : k = n := by omega
      have hte := TE.out
      rw [hte] at HO
      obtain ⟨tp, tc, rfl, _, _, hr, _⟩ := HO.out.rows elemByte.len
      have HRR := Lib.hid hr
      clear hr HO hlt hk hte
      go_wp2
      go_ret
      exact ⟨⟨tp, ⟨tc, rfl⟩, HRR.out⟩, HB.out⟩
end Go.Proofs.YtdeojhcfbiekmaaDoor

/- The contract of package redo's Merge: the last put of each number, by rising numbers, in new memory. Conditions: there are at most 1000 puts; their numbers are of 64 bits. -/
import Derived.Test.YtdeojhcfbiekmaaDoorRdKeys
import Derived.Test.YtdeojhcfbiekmaaDoorRdPut
namespace Go.Proofs.YtdeojhcfbiekmaaDoor
open Go.ChangeShapes Go.WideShapes Go.ChangeAt Go.RowKit Go.Maps
set_option linter.unusedVariables false
attribute [local go_sem] run_makeMap
def AtsOk (l : List PutOf) : Prop := ∀ p ∈ l, -9223372036854775808 ≤ p.at' ∧ p.at' ≤ 9223372036854775807
theorem putC_at (c : PutOf) : (putC c)[0]? = some (.int .i64 c.at') := rfl
theorem getD_at (l : List PutOf) {k : Nat} (h : k < l.length) : l.getD k noPut = l[k] := by rw [List.getD_eq_getElem?_getD, List.getElem?_eq_getElem h]; rfl
theorem rowsAt_get {W : World} {q : Option Addr} {l : List PutOf} (h : RowsAt 129 putC W q l) {k : Nat} (hk : k < l.length) : ∃ B o, q = some ⟨B, o, none⟩ ∧ B < W.heap.size ∧ W.rangeAt B (o + 129 * k) (putC (l.getD k noPut)) := by
  rw [getD_at l hk]; exact rowsAt_elem h hk
theorem AtsOk.get {l : List PutOf} (h : AtsOk l) {k : Nat} (hk : k < l.length) : -9223372036854775808 ≤ (l.getD k noPut).at' ∧ (l.getD k noPut).at' ≤ 9223372036854775807 := by
  rw [getD_at l hk]; exact h _ (List.getElem_mem hk)
section
variable {ops : Array Oper} {rest : List Oper} {o : Oper} {a : Act} {w : World} {Q : Exit → Act → World → Prop}
theorem wpList_make_list {α : Type} {P : Program} {t e : TypeId} {sz by' : Nat} {C : α → List Value} (E : ElemOf P t e sz by' C) (hgd : o.guard = none) (x y : Operand) (ho : o.op = .makeSlice t x y) (c : Nat) (hx : a.eval x = .int .i64 0) (hy : a.eval y = .int .i64 (c : Nat)) (hc : c ≤ 1000000) (hby : by' ≤ 1000) (base : Nat) (hbase : base ≤ w.heap.size)
    (h : ∀ w' : World, OwnL e sz C w' base w'.heap.size (.slice (some ⟨w.heap.size, 0, none⟩) 0 c) ([] : List α) → Below w.heap.size w w' → wpList P ops Q rest (a.put o.dst (.slice (some ⟨w.heap.size, 0, none⟩) 0 c)) w') : wpList P ops Q (o :: rest) a w := by
  obtain ⟨z, hz, hzs⟩ := E.zero
  cases hq : P.info? e with
  | none => have := E.size; rw [hq] at this; simp at this
  | some i =>
    have hsz := E.size
    have hbb := E.bytes
    rw [hq] at hsz hbb hz
    have hsz' : i.size = sz := by simpa using hsz
    have hzz : i.zero = some z := by simpa using hz
    have hby' : i.bytes = by' := by simpa using hbb
    obtain ⟨w', hrun, r1, r2⟩ := run_make_own (P := P) w base t e i z sz E.under hq hzz hsz' .i64 .i64 c (by
      have : i.bytes * c ≤ 1000 * 1000000 := Nat.mul_le_mul (by omega) hc
      omega) (by unfold maxLen; omega) hbase
    refine wpList_plain hgd fun K hK => ?_
    unfold Oper.wp execOp
    simp only [ho]
    simp [hx, hy, hrun]
    exact hK _ _ (h w' (OwnL.of_owns (l := ([] : List α)) (by simpa using r1)) (below_own1 r2 (fun B e => by cases e) (Nat.le_refl _)))
end
theorem mergeK_zero (l : List PutOf) (K : List Int) : mergeK l (K.take 0) = [] := rfl
theorem pickP_at {l : List PutOf} {x : Int} {i : Nat} (h : lastTo l l.length x = some i) : pickP l x = l.getD i noPut := by unfold pickP; rw [h]; rfl
attribute [local irreducible] lastTo mergeK pickP putC natF
set_option maxRecDepth 100000 in
set_option maxHeartbeats 4000000 in
theorem Merge_any (q : Option Addr) (cap : Nat) (l : List PutOf) (hn : l.length ≤ 1000) (ha : AtsOk l) (w : World) (hp : RowsAt 129 putC w q l) :
    Calls Tryd.prog 24 #[.slice q l.length cap] w fun e w' => ∃ K v, e = .returned v ∧ IsKeys l K ∧ OwnL 57 129 putC w' w.heap.size w'.heap.size v (mergeK l K) ∧ Below w.heap.size w w' := by
  have HP := Lib.hid hp
  have HN := Lib.hid hn
  have HA := Lib.hid ha
  have M0 := Lib.hid (lastAt_new w l)
  have B0 := Lib.hid ((Below.refl _ w).alloc (Nat.le_refl _) (.map #[] 0))
  clear hp hn ha
  generalize hL : l.length = n at *
  go_enter Tryd.func24, Tryd.ntmps24
  go_wp2
  generalize hmb : w.heap.size = mb at *
  generalize w.alloc (.map #[] 0) = w1 at *
  go_loopw [12] (fun v12 wr => ∃ k : Nat, k ≤ n ∧ v12 = .int .i64 k ∧ LastAt wr mb l k ∧ Below mb w wr) (fun v12 _ => n - (intOf v12).toNat)
  case atStart => exact ⟨0, Nat.zero_le _, rfl, M0.out, B0.out⟩
  case round =>
    obtain ⟨k, hk, rfl, hm, hb⟩ := hrel
    by_cases hlt : k < n
    · obtain ⟨B, o, rfl, hB, hr⟩ := rowsAt_get HP.out (show k < l.length by omega)
      have HLT := Lib.hid hlt
      have f1 : (k : Int) < (n : Int) := by omega
      have f2 : (0 : Int) ≤ k := by omega
      have f3 : IntKind.i64.wrap ((k : Int) + 1) = ((k + 1 : Nat) : Int) := by have := HN.out; rw [IntWalk.i64_in _ (by omega)]; omega
      have HR := Lib.hid (rangeAt_below hr hb (by rw [← hmb]; exact hB))
      have hat := HA.out.get (show k < l.length by omega)
      have HG := Lib.hid (fun (D : DataW Value) (h : MapI D (lastTo l k)) hD => h.next hD)
      generalize l.getD k noPut = c at *
      have HKY := Lib.hid (key_i64 c.at' hat.1 hat.2)
      have HKM := Lib.hid (show k < maxLen by have := HN.out; unfold maxLen; omega)
      have HVL := Lib.hid (plainElem_int (H := Value) Tryd.underlying3 (wf_i64 (k : Int) (by omega) (by have := HN.out; omega)))
      have OB := Lib.hid (PutBox.new wr c)
      have BO := Lib.hid (put_box_below wr c)
      have BB := Lib.hid hb
      have HM := Lib.hid hm
      clear hlt hr hB hm hb hat
      go_wp2_with (first
        | (refine wpList_put_elem rfl _ _ rfl B o n cap k rfl rfl HLT.out ?_)
        | (refine wpList_put_load rfl _ rfl B (o + 129 * k) rfl c HR.out ?_)
        | (refine wpList_put_alloc rfl rfl ?_)
        | (refine store_row_on rfl 57 _ _ rfl rfl wr.heap.size (putC c).toArray rfl rfl 57 (putC ⟨0, []⟩).toArray (heap_alloc_new _ _) (putA_size c) (by rw [List.size_toArray, List.size_toArray, putC_len, putC_len]) (putA_one c) ?_
           generalize hW : (wr.alloc (.cells (putC ⟨0, []⟩).toArray 57)).setRow wr.heap.size (putC c).toArray = wb at *
           have c0 : wb.cell? ⟨wr.heap.size, 0, none⟩ = some (.int .i64 c.at') := (OB.out.cell 0).trans (putC_at c)
           obtain ⟨D, hown, hmi⟩ := HM.out.below BO.out
           have HOW := Lib.hid hown; have HMI := Lib.hid hmi
           clear hown hmi)
        | (refine wpList_mapUpdate_in _ rfl _ _ _ 86 rfl 3 3 intKey Tryd.underlying86 (plainElem Tryd.prog 3) mb k D rfl HOW.out HKM.out _ _ (.int .i64 c.at') rfl rfl HKY.out _ [] HVL.out ?_
           intro w3 hown3 ht3
           have M3 := Lib.hid (show LastAt w3 mb l (k + 1) from ⟨_, hown3, HG.out _ HMI.out HOW.out.isMap⟩)
           have B3 := Lib.hid ((BB.out.trans (BO.out.mono (Nat.le_of_lt HM.out.lt))).trans (below_own1 ht3.grown (fun g hg => by cases hg; exact Nat.le_refl _) (Nat.le_trans (Nat.le_of_lt HM.out.lt) BO.out.size)))
           clear hown3 ht3 HOW HMI HM BO BB))
      go_roundw
      case rel => exact ⟨k + 1, HLT.out, by go_num, M3.out, B3.out⟩
      case measure => have := HLT.out; simp [intOf]; omega
    · have f1 : ¬ (k : Int) < (n : Int) := by omega
      obtain rfl : k = n := by omega
      have BB := Lib.hid hb
      obtain ⟨D, hown, hmi⟩ := hm
      have hMB := hown.lt
      have hsz := hown.size_le
      rw [← hL] at hmi
      have HMI := Lib.hid hmi
      have HSZ := Lib.hid (show Maps.size D ≤ 1000 by have := HN.out; omega)
      have B1 := Lib.hid (show Below wr.heap.size wr (wr.alloc (.cells #[.map (some mb)] 86)) from (Below.refl _ _).alloc (Nat.le_refl _) _)
      have HSO := Lib.hid (fun (ss : List Int) (hp : ss.Perm (intKeys D)) => keys_sorted hown hmi hp)
      have HOW := Lib.hid hown
      have HMB := Lib.hid hMB
      clear hlt hk hb hown hmi hsz hMB
      generalize hC0 : wr.heap.size = C0 at *
      go_wp2_with (first
        | (refine wpList_len_own _ rfl _ 86 rfl 3 3 Tryd.underlying86 (plainElem Tryd.prog 3) mb k D rfl HOW.out ?_)
        | (refine wpList_make_list elemPut rfl _ _ rfl (Maps.size D) rfl rfl (by have := HSZ.out; omega) (by decide) C0 (by rw [hC0]; exact Nat.le_refl _) ?_
           intro w2 ho2 hb2
           have O2 := Lib.hid ho2
           have B2 := Lib.hid hb2
           clear ho2 hb2)
        | (go_at_call 43; refine (maps_keys (some mb) w2).mono ?_; rintro e w3 ⟨rfl, rfl⟩)
        | (go_at_call 42; refine (sorted_keys mb k D (plainElem Tryd.prog 3) w2 (ownsMap_keep HOW.out (B2.out.block mb (by have := HMB.out; omega))) (by have := HSZ.out; unfold maxLen; omega) (by have := HSZ.out; omega)).mono ?_; rintro e w4 ⟨v, ss, rfl, hp, hrow, hnil, hb⟩
           have HK := Lib.hid (HSO.out ss hp)
           have hlen := (List.length_mergeSort (le := fun x y : Int => decide (x ≤ y)) ss)
           generalize hss : ss.mergeSort (fun x y => decide (x ≤ y)) = K at *
           rw [← hlen] at hrow
           obtain ⟨kp, kc, rfl, hkc, _, hkr, hkb⟩ := (ints_own hrow).rows elemInt.len
           have HKR := Lib.hid hkr
           have HKB := Lib.hid hkb
           have hs3 : (w2.alloc (.cells #[.map (some mb)] 86)).heap.size = w2.heap.size + 1 := by simp
           have hs2 := O2.out.rows elemPut.len
           have B4 := Lib.hid (show Below w2.heap.size w2 w4 from ((Below.refl _ w2).alloc (Nat.le_refl _) _).trans (hb.mono (by omega)))
           have HKC := Lib.hid (show ∀ B o, kp = some ⟨B, o, none⟩ → C0 < B from fun B o e => by have := (hkb B o e).1; have := B2.out.size; omega)
           clear hp hrow hnil hb hss hlen hkr hkb hs3 hs2))
      have O4 := Lib.hid ((O2.out.below (Nat.le_refl _) B4.out).raise B4.out.size)
      have HMW := Lib.hid (show LastAt w4 mb l k from ⟨D, ownsMap_keep (ownsMap_keep HOW.out (B2.out.block mb (by have := HMB.out; omega))) (B4.out.block mb (by have := HMB.out; have := B2.out.size; omega)), by rw [← hL]; exact HMI.out⟩)
      have B5 := Lib.hid (show Below C0 wr w4 from (B2.out.mono (by omega)).trans (B4.out.mono (by have := B2.out.size; omega)))
      have B6 := Lib.hid (show Below mb w w4 from BB.out.trans (B5.out.mono (by have := HMB.out; omega)))
      have S4 := Lib.hid (show C0 < w4.heap.size from by have := O2.out.blockTop wr.heap.size rfl; have := B4.out.size; omega)
      have P4 := Lib.hid (HP.out.below (by rw [hmb]; exact B6.out))
      have HMC := Lib.hid (show mb < C0 from HMB.out)
      have HLQ := Lib.hid (fun B o (e : q = some ⟨B, o, none⟩) (hl : l ≠ []) => show B < mb from by
        rcases HP.out with h0 | ⟨B', o', h1, h2, _⟩
        · exact absurd h0 hl
        · rw [h1] at e; cases e; omega)
      have HKN := Lib.hid HK.out.most
      clear O2 B1 B2 B4 HOW HMI HSO M0 B0 HP HKB B5 BB HMB HSZ
      rw [hC0] at O4
      generalize wr = wo at *
      go_loopw [29, 6] (fun v29 v6 wx => ∃ j : Nat, j ≤ K.length ∧ v29 = .int .i64 j ∧ OwnL 57 129 putC wx C0 wx.heap.size v6 (mergeK l (K.take j)) ∧ Grown w4 wx C0 v6) (fun v29 _ _ => K.length - (intOf v29).toNat)
      case atStart => exact ⟨0, Nat.zero_le _, rfl, by rw [mergeK_zero]; exact O4.out, Grown.start (.inr (by rw [← hC0]; rfl))⟩
      case round =>
        obtain ⟨j, hj, rfl, ho, hg⟩ := hrel
        by_cases hlt : j < K.length
        · obtain ⟨i, hli, hil, hpe, hat⟩ := HK.out.pick (List.getElem_mem hlt)
          have hpk := pickP_at hli
          have hnx := mergeK_next l K hlt
          have hky := HA.out.get hil
          rw [getD_at l hil, hat] at hky
          obtain ⟨Bk, ok, rfl, hBk, hck⟩ := int_cell HKR.out hlt
          have ck := (hg.cell (o := ok + j) hBk (by have := HKC.out Bk ok rfl; omega)).trans hck
          obtain ⟨B, o, rfl, hB, hr⟩ := rowsAt_get P4.out hil
          rw [← hpk] at hr
          have hBm := HLQ.out B o rfl (fun e => by rw [e] at hil; simp at hil)
          generalize K[j] = x at *
          have HR := Lib.hid (hg.range hr hB (by have := HMC.out; omega))
          obtain ⟨D2, hown2, hmi2⟩ := HMW.out.keep (w' := wr) (hg.block mb (by have := HMC.out; have := S4.out; omega) (by have := HMC.out; omega))
          have HOW2 := Lib.hid hown2
          have HVA := Lib.hid (show D2.atKey (.int .i64 x) (.lit (.int .i64 0)) = .lit (.int .i64 (i : Nat)) from hmi2.val x i (by rw [← hL]; exact hli) _)
          have HKY := Lib.hid (key_i64 x hky.1 hky.2)
          have f1 : (j : Int) < (K.length : Int) := by omega
          have f2 : (0 : Int) ≤ j := by omega
          have f3 : IntKind.i64.wrap ((j : Int) + 1) = ((j + 1 : Nat) : Int) := by have := HN.out; have := HKN.out; rw [IntWalk.i64_in _ (by omega)]; omega
          have HI := Lib.hid (show i < k by omega)
          have HLT := Lib.hid hlt
          have HO := Lib.hid ho
          have HG := Lib.hid hg
          have HNX := Lib.hid hnx
          have HLE := Lib.hid (show (mergeK l (K.take j)).length ≤ 1000 by rw [mergeK_len, List.length_take]; have := HN.out; have := HKN.out; omega)
          have HCW := Lib.hid (show C0 ≤ wr.heap.size by have := hg.size; have := S4.out; omega)
          clear hlt hj ho hg hnx hpe hli hat hil hpk hky hBk hck hB hr hBm hown2 hmi2
          generalize pickP l x = c at *
          generalize mergeK l (K.take j) = m at *
          go_wp2_with (first
            | (refine wpList_lookup_own_int _ rfl _ _ 86 rfl 3 3 .i64 intKey Tryd.underlying86 Tryd.underlying3 (by kernel_rfl) mb k D2 rfl HOW2.out _ (.int .i64 x) rfl HKY.out ?_
               intro c' hat _
               have hcc : c' = ((i : Nat) : Int) := (lit_inj (HVA.out.symm.trans hat)).symm
               subst hcc
               clear hat)
            | (refine wpList_put_elem rfl _ _ rfl B o k cap i rfl rfl HI.out ?_)
            | (refine wpList_put_load rfl _ rfl B (o + 129 * i) rfl c HR.out ?_)
            | (refine wpList_put1 rfl _ rfl c rfl ?_)
            | (refine wpList_append_list elemPut rfl _ _ rfl C0 wr.heap.size _ m [c] (some ⟨wr.heap.size, 0, none⟩) 1 1 rfl rfl rfl (HO.out.below (Nat.le_refl _) ((Below.refl _ wr).alloc (Nat.le_refl _) _)) (rows_one wr c) (by have := HLE.out; simp; omega) (by decide) (Nat.le_trans HCW.out (by simp)) ?_
               intro v5 w5 ho5 hg5 hr5
               have O5 := Lib.hid ho5
               have G5 := Lib.hid ((HG.out.below ((Below.refl _ wr).alloc (Nat.le_refl _) _)).append hg5 hr5)
               clear ho5 hg5 hr5))
          go_roundw
          case rel => exact ⟨j + 1, HLT.out, by go_num, by rw [HNX.out]; exact O5.out, G5.out⟩
          case measure => have := HLT.out; simp [intOf]; omega
        · have f1 : ¬ (j : Int) < (K.length : Int) := by omega
          obtain rfl : j = K.length := by omega
          have HO := Lib.hid ho
          have HB := Lib.hid (show Below mb w wr from B6.out.trans (hg.low (by have := HMC.out; omega) (by have := HMC.out; have := S4.out; omega)))
          clear hlt hj ho hg
          go_wp2
          go_ret
          rw [List.take_of_length_le (Nat.le_refl _)] at HO
          exact ⟨K, _, rfl, HK.out, HO.out.lower (Nat.le_of_lt HMC.out), HB.out⟩
end Go.Proofs.YtdeojhcfbiekmaaDoor
